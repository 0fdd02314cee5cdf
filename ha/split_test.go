package ha

import (
	"slices"
	"testing"

	"tidewrack/api"
)

// splitIs holds Split against what chapter 16 says of it, and tells its error.
func splitIs(t *testing.T, ss []api.Sample) api.Errno {
	t.Helper()
	cluster, replica, out, e := Split(ss)
	wantCluster, wantReplica, want, fault := splitOf(ss)
	if cluster != wantCluster || replica != wantReplica || told(out) != told(want) || e != fault {
		t.Fatalf("P16.1: Split(%.300s): %.50q, %.50q, %.300s, %d; want %.50q, %.50q, %.300s, %d", told(ss), cluster, replica, told(out), e, wantCluster, wantReplica, told(want), fault)
	}
	return e
}

func TestSplitWrittenOut(t *testing.T) {
	both := sample(5, "cluster", "c", "job", "x", "replica", "r")
	for _, x := range []struct {
		what             string
		ss               []api.Sample
		cluster, replica string
		want             []api.Sample
		e                api.Errno
	}{
		{"no samples", nil, "", "", nil, api.OK},
		{"no labels", []api.Sample{sample(5)}, "", "", []api.Sample{sample(5)}, api.OK},
		{"a cluster alone", []api.Sample{sample(5, "cluster", "c")}, "", "", []api.Sample{sample(5, "cluster", "c")}, api.OK},
		{"unlike clusters alone", []api.Sample{sample(5, "cluster", "c"), sample(6, "cluster", "d"), sample(7)}, "", "", []api.Sample{sample(5, "cluster", "c"), sample(6, "cluster", "d"), sample(7)}, api.OK},
		{"a replica without a value", []api.Sample{sample(5, "cluster", "c", "replica", "")}, "", "", []api.Sample{sample(5, "cluster", "c", "replica", "")}, api.OK},
		{"both", []api.Sample{both}, "c", "r", []api.Sample{sample(5, "cluster", "c", "job", "x")}, api.OK},
		{"both, twice", []api.Sample{both, both}, "c", "r", []api.Sample{sample(5, "cluster", "c", "job", "x"), sample(5, "cluster", "c", "job", "x")}, api.OK},
		{"both, and no more", []api.Sample{sample(6, "cluster", "c", "replica", "r"), both}, "c", "r", []api.Sample{sample(6, "cluster", "c"), sample(5, "cluster", "c", "job", "x")}, api.OK},
		{"both of one value", []api.Sample{sample(6, "cluster", "v", "replica", "v")}, "v", "v", []api.Sample{sample(6, "cluster", "v")}, api.OK},
		{"a replica alone", []api.Sample{sample(5, "replica", "r")}, "", "", nil, api.ErrHaLabels},
		{"a cluster without a value", []api.Sample{sample(5, "cluster", "", "replica", "r")}, "", "", nil, api.ErrHaLabels},
		{"one without labels behind", []api.Sample{both, sample(5)}, "", "", nil, api.ErrHaLabels},
		{"one without labels ahead", []api.Sample{sample(5), both}, "", "", nil, api.ErrHaLabels},
		{"one without a replica", []api.Sample{both, sample(5, "cluster", "c")}, "", "", nil, api.ErrHaLabels},
		{"one without a replica's value", []api.Sample{both, sample(5, "cluster", "c", "replica", "")}, "", "", nil, api.ErrHaLabels},
		{"one without a cluster", []api.Sample{both, sample(5, "replica", "r")}, "", "", nil, api.ErrHaLabels},
		{"unlike clusters", []api.Sample{both, sample(5, "cluster", "d", "replica", "r")}, "", "", nil, api.ErrHaLabels},
		{"unlike replicas", []api.Sample{both, sample(5, "cluster", "c", "replica", "q")}, "", "", nil, api.ErrHaLabels},
		{"the two the other way round", []api.Sample{both, sample(5, "cluster", "r", "replica", "c")}, "", "", nil, api.ErrHaLabels},
		{"unlike ones between like ones", []api.Sample{both, sample(5, "cluster", "c", "replica", "q"), both}, "", "", nil, api.ErrHaLabels},
	} {
		cluster, replica, out, e := Split(x.ss)
		if cluster != x.cluster || replica != x.replica || told(out) != told(x.want) || e != x.e {
			t.Errorf("P16.1: %s: %q, %q, %s, %d", x.what, cluster, replica, told(out), e)
		}
		splitIs(t, x.ss)
	}
}

// TestSmallPushes: all lists of at most three samples of the pool.
func TestSmallPushes(t *testing.T) {
	seen := map[api.Errno]int{}
	for _, a := range pool() {
		seen[splitIs(t, []api.Sample{a})]++
		for _, b := range pool() {
			seen[splitIs(t, []api.Sample{a, b})]++
			for _, c := range pool() {
				seen[splitIs(t, []api.Sample{a, b, c})]++
			}
		}
	}
	if seen[api.OK] < 500 || seen[api.ErrHaLabels] < 500 {
		t.Errorf("told too few of one kind: %v", seen)
	}
}

// TestOneOther: in a push of many like samples, one other is told wherever it stands.
func TestOneOther(t *testing.T) {
	like := sample(5, "a", "b", "cluster", "c", "replica", "r")
	for _, n := range []int{1, 2, 3, 17, 64} {
		for i := range n {
			for _, other := range pool() {
				ss := slices.Repeat([]api.Sample{like}, n)
				ss[i] = other
				splitIs(t, ss)
				for k := range ss {
					if k != i {
						ss[k].Labels = ss[k].Labels[:1]
					}
				}
				splitIs(t, ss)
			}
		}
	}
}

// TestAnyTexts: what a value says changes nothing, as long as there is one.
func TestAnyTexts(t *testing.T) {
	long := string(make([]byte, 1<<12))
	texts := []string{"", "\x00", "\xff", "é", "c", "C", "c ", " c", "cluster", "replica", "{}", long, long + "x"}
	for _, c := range texts {
		for _, r := range texts {
			e := splitIs(t, []api.Sample{sample(1, "cluster", c, "replica", r)})
			if want := c == "" && r != ""; (e == api.ErrHaLabels) != want {
				t.Errorf("P16.1: cluster %.20q, replica %.20q: %d", c, r, e)
			}
			for _, other := range texts {
				splitIs(t, []api.Sample{sample(1, "cluster", c, "replica", r), sample(1, "cluster", c, "replica", other)})
				splitIs(t, []api.Sample{sample(1, "cluster", c, "replica", r), sample(1, "cluster", other, "replica", r)})
			}
		}
	}
}

// TestNoReplicaLeft: whatever is taken as a push of several senders has no label replica (T5), and splits as one of none.
func TestNoReplicaLeft(t *testing.T) {
	for _, a := range pool() {
		for _, b := range pool() {
			_, replica, out, e := Split([]api.Sample{a, b})
			if e != api.OK || replica == "" {
				continue
			}
			for _, s := range out {
				if slices.ContainsFunc(s.Labels, func(l api.Label) bool { return l.Name == "replica" }) {
					t.Errorf("P16.1: Split(%v, %v): %v", a, b, out)
				}
			}
			if c, r, again, e := Split(out); c != "" || r != "" || e != api.OK || told(again) != told(out) {
				t.Errorf("P16.1: Split of what Split told, %v: %q, %q, %v, %d", out, c, r, again, e)
			}
		}
	}
}
