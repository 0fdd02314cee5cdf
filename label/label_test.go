package label

import (
	"cmp"
	"slices"
	"strings"
	"testing"

	"tidewrack/api"
)

// lists has any lists: sorted or not, with a Name twice, with empty texts.
func lists() [][]api.Label {
	out := [][]api.Label{nil}
	for _, x := range []string{"", "a", "b", "ab", "\xff"} {
		for _, y := range []string{"", "a", "\n", "\xff"} {
			out = append(out, set(x, y), set("a", "x", x, y), set(x, y, "a", "x"), set(x, y, x, y), set("b", "x", "a", "y", x, y))
		}
	}
	return append(append(out, rising(16), rising(17)), allowed()...)
}

// order is Compare by its words: the first label in which both differ, then the lengths.
func order(a, b []api.Label) int {
	for i := range min(len(a), len(b)) {
		if a[i].Name != b[i].Name {
			return cmp.Compare(a[i].Name, b[i].Name)
		}
		if a[i].Value != b[i].Value {
			return cmp.Compare(a[i].Value, b[i].Value)
		}
	}
	return cmp.Compare(len(a), len(b))
}

func TestCompare(t *testing.T) {
	for _, a := range lists() {
		for _, b := range lists() {
			if got := Compare(a, b); got != order(a, b) {
				t.Errorf("P3.2: Compare(%.60q, %.60q): %d", a, b, got)
			}
		}
	}
	rise := [][]api.Label{{}, set("", ""), set("", "z"), set("A", "z"), set("_", "z"), set("a", ""), set("a", "x"), set("a", "x", "A", "x"), set("a", "x", "b", "y"), set("a", "xx"), set("a", "y"), set("a", "z\x00"), set("a", "é"), set("a", "\xff"), set("aa", ""), set("b", "a")}
	for i, a := range rise {
		for k, b := range rise {
			if got := Compare(a, b); got != cmp.Compare(i, k) {
				t.Errorf("P3.2: Compare(%q, %q): %d", a, b, got)
			}
		}
	}
}

// TestCompareIsAStrictOrder: of each two one is the lesser one, or they are alike; and it goes on over a third.
func TestCompareIsAStrictOrder(t *testing.T) {
	all := lists()
	slices.SortFunc(all, Compare)
	for i, a := range all {
		for k, b := range all {
			c := Compare(a, b)
			if c != -Compare(b, a) || (c == 0) != slices.Equal(a, b) || c < -1 || c > 1 {
				t.Errorf("P3.5: Compare(%.60q, %.60q): %d", a, b, c)
			}
			if i < k && c > 0 {
				t.Errorf("P3.5: %.60q, %.60q: sorted, and not rising", a, b)
			}
		}
	}
}

func TestGet(t *testing.T) {
	ls := set("c", "1", "a", "2", "c", "3", "", "4", "b", "", "b", "5")
	for name, want := range map[string]string{"c": "1", "a": "2", "": "4", "b": "", "d": "", "C": "", "cc": ""} {
		if got := Get(ls, name); got != want {
			t.Errorf("P3.4: Get(%q): %q, not %q", name, got, want)
		}
	}
	if Get(nil, "a") != "" || Get(nil, "") != "" || Get(set("a", "x"), "b") != "" {
		t.Error("P3.4: Get without one")
	}
}

func wantLabels(t *testing.T, what string, got, want []api.Label) {
	t.Helper()
	if !slices.Equal(got, want) {
		t.Errorf("P3.4: %s: %.99q, not %.99q", what, got, want)
	}
}

func TestWith(t *testing.T) {
	wantLabels(t, "the example", With(set("a", "x"), "b", "y"), set("a", "x", "b", "y"))
	wantLabels(t, "none", With(nil, "b", "y"), set("b", "y"))
	wantLabels(t, "none, an empty Value", With(nil, "b", ""), nil)
	abc := set("a", "1", "c", "2", "e", "3")
	wantLabels(t, "first", With(abc, "A", "x"), set("A", "x", "a", "1", "c", "2", "e", "3"))
	wantLabels(t, "between", With(abc, "d", "x"), set("a", "1", "c", "2", "d", "x", "e", "3"))
	wantLabels(t, "last", With(abc, "ee", "x"), set("a", "1", "c", "2", "e", "3", "ee", "x"))
	wantLabels(t, "another Value", With(abc, "c", "x"), set("a", "1", "c", "x", "e", "3"))
	wantLabels(t, "the same Value", With(abc, "c", "2"), abc)
	wantLabels(t, "an empty Value", With(abc, "c", ""), set("a", "1", "e", "3"))
	wantLabels(t, "an empty Value, no such Name", With(abc, "b", ""), abc)
	wantLabels(t, "an empty Name", With(abc, "", "x"), set("", "x", "a", "1", "c", "2", "e", "3"))
	wantLabels(t, "a full set", With(rising(16), "o", "x"), append(rising(16), api.Label{Name: "o", Value: "x"}))
}

// TestWithOfOtherLists: of lists that are not sorted the place is ahead of the first greater Name.
func TestWithOfOtherLists(t *testing.T) {
	ls := set("b", "1", "d", "2", "a", "3", "d", "4", "b", "5", "e", "6")
	wantLabels(t, "first", With(ls, "a", "x"), set("a", "x", "b", "1", "d", "2", "d", "4", "b", "5", "e", "6"))
	wantLabels(t, "twice", With(ls, "b", "x"), set("b", "x", "d", "2", "a", "3", "d", "4", "e", "6"))
	wantLabels(t, "new", With(ls, "c", "x"), set("b", "1", "c", "x", "d", "2", "a", "3", "d", "4", "b", "5", "e", "6"))
	wantLabels(t, "its own place", With(ls, "d", "x"), set("b", "1", "a", "3", "b", "5", "d", "x", "e", "6"))
	wantLabels(t, "last", With(ls, "f", "x"), append(slices.Clone(ls), api.Label{Name: "f", Value: "x"}))
	wantLabels(t, "gone", With(ls, "d", ""), set("b", "1", "a", "3", "b", "5", "e", "6"))
	wantLabels(t, "one alone", With(set("a", "1", "a", "2"), "a", ""), nil)
}

// TestWithKeepsSetsSorted: a set that may be stays one, if there is room.
func TestWithKeepsSetsSorted(t *testing.T) {
	for _, ls := range allowed() {
		for _, name := range []string{"A", "_", "a", "aa", "n000", "n007", "n0071", "z"} {
			for _, value := range []string{"", "x"} {
				got := With(ls, name, value)
				if e := Check(got); e != api.OK && len(got) <= api.MaxLabels {
					t.Errorf("P3.4: With(%.60q, %s, %q): %d", ls, name, value, e)
				}
				if Get(got, name) != value {
					t.Errorf("P3.4: With(%.60q, %s, %q): %q", ls, name, value, Get(got, name))
				}
				wantLabels(t, "the others", Without(got, name), Without(ls, name))
			}
		}
	}
}

func TestKeepAndWithout(t *testing.T) {
	ls := set("c", "1", "a", "2", "c", "3", "", "4", "b", "5")
	for _, x := range []struct {
		names      []string
		keep, rest []api.Label
	}{
		{nil, nil, ls},
		{[]string{}, nil, ls},
		{[]string{"d", "cc", "C"}, nil, ls},
		{[]string{""}, set("", "4"), set("c", "1", "a", "2", "c", "3", "b", "5")},
		{[]string{"c"}, set("c", "1", "c", "3"), set("a", "2", "", "4", "b", "5")},
		{[]string{"b", "c", "b", "d"}, set("c", "1", "c", "3", "b", "5"), set("a", "2", "", "4")},
		{[]string{"a", "b", "c", ""}, ls, nil},
	} {
		wantLabels(t, "Keep of "+strings.Join(x.names, " "), Keep(ls, x.names...), x.keep)
		wantLabels(t, "Without "+strings.Join(x.names, " "), Without(ls, x.names...), x.rest)
		wantLabels(t, "Keep of none", Keep(nil, x.names...), nil)
		wantLabels(t, "none Without", Without(nil, x.names...), nil)
	}
}

// made are the calls that make lists, each with arguments at which it might hand on what it was given.
func made(ls []api.Label) [][]api.Label {
	return [][]api.Label{With(ls, "b", ""), With(ls, "b", "x"), With(ls, "zz", "x"), With(ls, "A", "x"), With(ls, "a", "y"), Keep(ls, "a", "c"), Keep(ls, "a"), Without(ls), Without(ls, "b"), Without(ls, "c")}
}

// TestListsAreNew: whoever writes into an answer, or appends to it, changes nothing else.
func TestListsAreNew(t *testing.T) {
	mark := api.Label{Name: "mark", Value: "m"}
	for _, was := range [][]api.Label{{}, set("a", "x"), set("a", "x", "c", "y")} {
		room := append(slices.Clone(was), mark, mark, mark)
		ls := room[:len(was)]
		first, again := made(ls), made(ls)
		for i := range first {
			other := slices.Clone(again[i])
			for k := range first[i] {
				first[i][k] = api.Label{Name: "written"}
			}
			_ = append(first[i], api.Label{Name: "appended"})
			if !slices.Equal(again[i], other) {
				t.Errorf("R3: answers of call %d share memory", i)
			}
		}
		if !slices.Equal(ls, was) || !slices.Equal(room[len(was):], []api.Label{mark, mark, mark}) {
			t.Errorf("R3: %q was changed: %q", was, room)
		}
	}
}

// TestNamesAreKept: the names that are handed in stay as they are, and those behind their end are not asked.
func TestNamesAreKept(t *testing.T) {
	room := []string{"c", "a", "b"}
	names := room[:2]
	ls := set("a", "1", "b", "2", "c", "3")
	wantLabels(t, "Keep", Keep(ls, names...), set("a", "1", "c", "3"))
	wantLabels(t, "Without", Without(ls, names...), set("b", "2"))
	if !slices.Equal(room, []string{"c", "a", "b"}) {
		t.Errorf("R3: the names were changed: %q", room)
	}
}

func TestBytesAreNew(t *testing.T) {
	ls := set("a", "x", "b", "y")
	want := asBytes(ls)
	b := Encode(ls)
	got, _, _ := Decode(b, 0)
	_ = append(b, 9)
	clear(b)
	if !slices.Equal(got, ls) {
		t.Errorf("R3: Decode kept its bytes: %q", got)
	}
	if !slices.Equal(Encode(ls), want) {
		t.Errorf("R3: Encode: %x", Encode(ls))
	}
	code := append(slices.Clone(want), 7, 7)
	first, _, _ := Decode(code[:len(want)], 0)
	again, _, _ := Decode(code[:len(want)], 0)
	first[0].Value = "written"
	_ = append(first, api.Label{})
	if !slices.Equal(again, ls) || !slices.Equal(code, append(want, 7, 7)) {
		t.Errorf("R3: Decode: %q, %x", again, code)
	}
}

// TestLongLists: any list ends in a time that its length explains.
func TestLongLists(t *testing.T) {
	ls := rising(200000)
	if b := Encode(ls); !slices.Equal(b, asBytes(ls)) {
		t.Errorf("P3.3: Encode of %d labels: %d bytes", len(ls), len(b))
	}
	if s := Text(ls); s != asText(ls) {
		t.Errorf("P3.3: Text of %d labels: %d bytes", len(ls), len(s))
	}
	if Compare(ls, ls[:len(ls)-1]) != 1 || Check(ls) != api.ErrLabelMany {
		t.Error("P3.2: a long list")
	}
	if len(With(ls, "m", "x")) != len(ls)+1 || len(Without(ls, "n0")) != len(ls) || len(Keep(ls, "n199999")) != 1 {
		t.Error("P3.4: a long list")
	}
}
