package ring

import (
	"fmt"
	"slices"
	"testing"
	"time"

	"tidewrack/api"
)

// roomy is a ring, each of its lists with something behind its length.
func roomy() api.Ring {
	ms := []api.Member{of(1, 1, 5, 9), of(2, 2, 5), of(4, 3, 1, 2, 3), of(7, 2, 8)}
	for i, m := range ms {
		ms[i].Tokens = append(slices.Clone(m.Tokens), 77, 78)[:len(m.Tokens)]
	}
	return api.Ring{Epoch: 6, Members: append(ms, of(3, 9, 99), of(9, 2, 99))[:len(ms)]}
}

// toldWhole tells what lies behind the lengths, too.
func toldWhole(r api.Ring) string {
	ms := slices.Clone(r.Members[:cap(r.Members)])
	for i, m := range ms {
		ms[i].Tokens = m.Tokens[:cap(m.Tokens)]
	}
	return fmt.Sprint(r.Epoch, ms)
}

// spoil writes into all lists of a ring, and behind them.
func spoil(r api.Ring) {
	ms := r.Members[:cap(r.Members)]
	for i, m := range ms {
		tokens := m.Tokens[:cap(m.Tokens)]
		for k := range tokens {
			tokens[k] = 1234
		}
		ms[i] = of(13, 13)
	}
}

type call struct {
	what string
	ask  func(r api.Ring) (api.Ring, api.Errno)
}

// calls are those that hand out rings.
func calls() []call {
	var out []call
	for i, id := range []int{3, 1, 2, 4} {
		s := steps()[i]
		out = append(out, call{s.what, func(r api.Ring) (api.Ring, api.Errno) { return s.do(r, id) }})
	}
	out = append(out, call{"Join behind all", func(r api.Ring) (api.Ring, api.Errno) { return Join(r, 15) }})
	return append(out, call{"Decode", func(r api.Ring) (api.Ring, api.Errno) {
		b, _ := Encode(r)
		return Decode(b)
	}})
}

// TestWhatComesIn: neither changed, nor kept, nor read behind its length.
func TestWhatComesIn(t *testing.T) {
	for _, c := range calls() {
		r := roomy()
		was := toldWhole(r)
		got, e := c.ask(r)
		if e != api.OK || toldWhole(r) != was {
			t.Errorf("R3: %s: %d, changed what was handed in: %s", c.what, e, toldWhole(r))
		}
		want := told(got)
		spoil(r)
		if told(got) != want {
			t.Errorf("R3: %s shares memory with what was handed in: %v", c.what, got)
		}
		r = roomy()
		got, _ = c.ask(r)
		spoil(got)
		if toldWhole(r) != was {
			t.Errorf("R3: %s hands out what was handed in: %s", c.what, toldWhole(r))
		}
	}
	r := roomy()
	was := toldWhole(r)
	Check(r)
	State(r, 2)
	Replicas(r, 6, 2)
	Encode(r)
	Join(r, 1)
	Activate(r, 2)
	if toldWhole(r) != was {
		t.Errorf("R3: changed what was handed in: %s", toldWhole(r))
	}
}

// TestSpareRoom: what stands behind the lengths counts for nothing.
func TestSpareRoom(t *testing.T) {
	wantTaken(t, roomy())
	plain := ringOf(6, of(1, 1, 5, 9), of(2, 2, 5), of(4, 3, 1, 2, 3), of(7, 2, 8))
	a, _ := Encode(roomy())
	b, _ := Encode(plain)
	if !slices.Equal(a, b) {
		t.Errorf("R3: %x, not %x", a, b)
	}
	for _, hash := range hashes(plain) {
		wantReplicas(t, roomy(), hash, 2)
	}
	if r, e := Decode(append(a, 1, 2, 3)[:len(a)]); e != api.OK || told(r) != told(plain) {
		t.Errorf("R3: Decode read behind the length: %v, %d", r, e)
	}
}

// TestWhatGoesOut: no two lists of an answer share memory, and nothing stands behind their lengths.
func TestWhatGoesOut(t *testing.T) {
	for _, c := range calls() {
		r, _ := c.ask(roomy())
		want := told(r)
		for _, m := range r.Members[len(r.Members):cap(r.Members)] {
			if m.ID != 0 || m.State != 0 || m.Tokens != nil {
				t.Errorf("R3: %s: a member behind the answer's length: %v", c.what, m)
			}
		}
		for _, m := range r.Members {
			for _, token := range m.Tokens[len(m.Tokens):cap(m.Tokens)] {
				if token != 0 {
					t.Errorf("R3: %s: a token behind the answer's length: %d", c.what, token)
				}
			}
			_ = append(m.Tokens, 1234, 1234)
		}
		if told(r) != want {
			t.Errorf("R3: lists of %s share memory: %v", c.what, r)
		}
		for i := range r.Members {
			rest := fmt.Sprint(r.Members[i+1:])
			spoil(api.Ring{Members: r.Members[i : i+1 : i+1]})
			if fmt.Sprint(r.Members[i+1:]) != rest {
				t.Errorf("R3: lists of %s share memory: %v", c.what, r)
			}
		}
		if again, e := c.ask(roomy()); e != api.OK || told(again) != want {
			t.Errorf("R3: %s hands out what it keeps: %v", c.what, again)
		}
	}
}

// TestListsGoOut: tokens, replicas and bytes are new memory, too.
func TestListsGoOut(t *testing.T) {
	r := roomy()
	was := toldWhole(r)
	tokens := Tokens(3)
	ids, _ := Replicas(r, 6, 2)
	b, _ := Encode(r)
	for _, x := range [][2]string{
		{fmt.Sprint(tokens[len(tokens):cap(tokens)]), fmt.Sprint(make([]uint32, cap(tokens)-len(tokens)))},
		{fmt.Sprint(ids[len(ids):cap(ids)]), fmt.Sprint(make([]int, cap(ids)-len(ids)))},
		{fmt.Sprint(b[len(b):cap(b)]), fmt.Sprint(make([]byte, cap(b)-len(b)))},
	} {
		if x[0] != x[1] {
			t.Errorf("R3: behind the length: %s", x[0])
		}
	}
	clear(tokens[:cap(tokens)])
	clear(ids[:cap(ids)])
	from, _ := Decode(b)
	clear(b[:cap(b)])
	if !slices.Equal(Tokens(3), modelTokens(3)) || toldWhole(r) != was || told(from) != told(r) {
		t.Errorf("R3: %v, %s, %v", Tokens(3), toldWhole(r), from)
	}
	wantReplicas(t, r, 6, 2)
}

// TestBytesComeIn: Decode neither changes nor keeps them.
func TestBytesComeIn(t *testing.T) {
	b := modelBytes(roomy())
	room := append(slices.Clone(b), 1, 2, 3)
	if r, e := Decode(room[:len(b)]); e != api.OK || told(r) != told(roomy()) || !slices.Equal(room, append(b, 1, 2, 3)) {
		t.Errorf("R3: %v, %d, %x", r, e, room)
	}
}

// TestNilAndEmpty are one.
func TestNilAndEmpty(t *testing.T) {
	for _, r := range []api.Ring{{Epoch: 4}, {Epoch: 4, Members: []api.Member{}}} {
		wantTaken(t, r)
	}
	for _, tokens := range [][]uint32{nil, {}} {
		wantRefused(t, ringOf(4, of(1, 1, tokens...)))
	}
	for _, b := range [][]byte{nil, {}} {
		if r, e := Decode(b); e != api.ErrRingForm || told(r) != told(api.Ring{}) {
			t.Errorf("R2: %v, %d", r, e)
		}
	}
}

// within fails if what is done takes longer than its size explains.
func within(t *testing.T, most time.Duration, do func()) {
	t.Helper()
	begun := time.Now()
	do()
	if took := time.Since(begun); took > most {
		t.Errorf("R1: %v, above %v", took, most)
	}
}

// TestFullRing: sixteen members of 64 tokens each, asked for as many hashes as some full pushes have.
func TestFullRing(t *testing.T) {
	var r api.Ring
	for id := range 16 {
		r.Members = append(r.Members, of(id, 2, upFrom(uint32(id)<<28, 64)...))
	}
	within(t, 10*time.Second, func() {
		for i := range uint32(20 * api.MaxPush) {
			if ids, e := Replicas(r, i<<20, 5); e != api.OK || len(ids) != 5 {
				t.Fatalf("P13.3: %v, %d", ids, e)
			}
		}
	})
}

// TestFarTooMuch: rings and bytes that are wrong at once, whatever their size.
func TestFarTooMuch(t *testing.T) {
	within(t, 5*time.Second, func() {
		wantRefused(t, ringOf(1, slices.Repeat([]api.Member{of(1, 2, 5)}, 1000000)...))
		wantRefused(t, ringOf(1, of(1, 2, upFrom(0, 10000000)...)))
		if _, e := Decode(append([]byte{1, 255, 255, 255, 15}, make([]byte, 10000000)...)); e != api.ErrRingForm {
			t.Errorf("P13.4: %d", e)
		}
	})
}
