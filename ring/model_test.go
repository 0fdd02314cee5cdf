package ring

import (
	"bytes"
	"encoding/binary"
	"fmt"
	"hash/fnv"
	"maps"
	"math"
	"math/rand"
	"slices"
	"testing"

	"tidewrack/api"
)

// The models say what chapter 13 says by other means than the package: they know of no circle, and read bytes by the library.

func of(id int, state int, tokens ...uint32) api.Member {
	return api.Member{ID: id, State: state, Tokens: tokens}
}

func ringOf(epoch uint64, ms ...api.Member) api.Ring {
	return api.Ring{Epoch: epoch, Members: ms}
}

// upFrom has n tokens from v on.
func upFrom(v uint32, n int) []uint32 {
	var out []uint32
	for i := range n {
		out = append(out, v+uint32(i))
	}
	return out
}

// told is a ring as text; nil and empty lists are one there.
func told(r api.Ring) string {
	return fmt.Sprint(r)
}

func modelTokens(id int) []uint32 {
	var out []uint32
	for k := range uint64(4) {
		h := fnv.New32a()
		h.Write(binary.AppendUvarint(binary.AppendUvarint(nil, uint64(id)), k))
		out = append(out, h.Sum32())
	}
	slices.Sort(out)
	return slices.Compact(out)
}

// once has each of a list once.
func once[K comparable](list []K) map[K]struct{} {
	out := map[K]struct{}{}
	for _, x := range list {
		out[x] = struct{}{}
	}
	return out
}

func modelMayBe(r api.Ring) bool {
	var ids []int
	for _, m := range r.Members {
		ids = append(ids, m.ID)
		if m.ID < 0 || m.ID > 15 || m.State < 1 || m.State > 3 || len(m.Tokens) == 0 || len(m.Tokens) > 64 {
			return false
		}
		if !slices.IsSorted(m.Tokens) || len(once(m.Tokens)) < len(m.Tokens) {
			return false
		}
	}
	return slices.IsSorted(ids) && len(once(ids)) == len(ids)
}

// modelReplicas sorts the active members by how far behind the hash their nearest token stands, round the circle.
func modelReplicas(r api.Ring, hash uint32, rf int) ([]int, api.Errno) {
	if !modelMayBe(r) || rf < 1 || rf > 5 {
		return nil, api.ErrRingForm
	}
	type near struct {
		behind uint32
		id     int
	}
	var all []near
	for _, m := range r.Members {
		if m.State != api.RingActive {
			continue
		}
		least := uint32(math.MaxUint32)
		for _, token := range m.Tokens {
			least = min(least, token-hash)
		}
		all = append(all, near{least, m.ID})
	}
	if len(all) < rf {
		return nil, api.ErrRingFew
	}
	slices.SortFunc(all, func(a, b near) int {
		if a.behind != b.behind && a.behind < b.behind || a.behind == b.behind && a.id < b.id {
			return -1
		}
		return 1
	})
	var out []int
	for _, x := range all[:rf] {
		out = append(out, x.id)
	}
	return out, api.OK
}

func modelBytes(r api.Ring) []byte {
	b := binary.AppendUvarint(nil, r.Epoch)
	b = binary.AppendUvarint(b, uint64(len(r.Members)))
	for _, m := range r.Members {
		b = binary.AppendUvarint(b, uint64(m.ID))
		b = binary.AppendUvarint(b, uint64(m.State))
		b = binary.AppendUvarint(b, uint64(len(m.Tokens)))
		for _, token := range m.Tokens {
			b = binary.AppendUvarint(b, uint64(token))
		}
	}
	return b
}

// modelIn has the ring whose bytes these are: whatever can be read is laid anew, and must be the same.
func modelIn(b []byte) (api.Ring, bool) {
	left := b
	next := func() uint64 {
		v, n := binary.Uvarint(left)
		left = left[max(n, 0):]
		return v
	}
	r := api.Ring{Epoch: next()}
	for range min(next(), 100) {
		m := api.Member{ID: int(next()), State: int(next())}
		for range min(next(), 100) {
			m.Tokens = append(m.Tokens, uint32(next()))
		}
		r.Members = append(r.Members, m)
	}
	return r, modelMayBe(r) && bytes.Equal(modelBytes(r), b)
}

// step is one of the four changes.
type step struct {
	what     string
	do       func(api.Ring, int) (api.Ring, api.Errno)
	from, to int // the states ahead of it and behind; 0 is none
}

func steps() []step {
	return []step{{"Join", Join, 0, 1}, {"Activate", Activate, 1, 2}, {"Leave", Leave, 2, 3}, {"Gone", Gone, 3, 0}}
}

// model keeps the members by ID, and sorts them in the end.
func (s step) model(r api.Ring, id int) (api.Ring, api.Errno) {
	if !modelMayBe(r) || r.Epoch == 1<<64-1 || id < 0 || id > 15 {
		return api.Ring{}, api.ErrRingForm
	}
	all := map[int]api.Member{}
	for _, m := range r.Members {
		all[m.ID] = m
	}
	m, there := all[id]
	switch {
	case there == (s.from == 0):
		return api.Ring{}, api.ErrRingMember
	case m.State != s.from:
		return api.Ring{}, api.ErrRingState
	case s.from == 0:
		m = api.Member{ID: id, Tokens: modelTokens(id)}
	}
	m.State = s.to
	all[id] = m
	if s.to == 0 {
		delete(all, id)
	}
	out := api.Ring{Epoch: r.Epoch + 1}
	for _, id := range slices.Sorted(maps.Keys(all)) {
		out.Members = append(out.Members, all[id])
	}
	return out, api.OK
}

func (s step) wantAsModel(t *testing.T, r api.Ring, id int) api.Ring {
	t.Helper()
	want, wantE := s.model(r, id)
	got, e := s.do(r, id)
	if e != wantE || told(got) != told(want) {
		t.Errorf("P13.2: %s(%v, %d): %v, %d, not %v, %d", s.what, r, id, got, e, want, wantE)
	}
	return want
}

func wantReplicas(t *testing.T, r api.Ring, hash uint32, rf int) {
	t.Helper()
	want, wantE := modelReplicas(r, hash, rf)
	if got, e := Replicas(r, hash, rf); e != wantE || !slices.Equal(got, want) {
		t.Errorf("P13.3: Replicas(%v, %d, %d): %v, %d, not %v, %d", r, hash, rf, got, e, want, wantE)
	}
}

// wantRefused: each call says that the ring may not be, whatever else it is given.
func wantRefused(t *testing.T, r api.Ring) {
	t.Helper()
	if e := Check(r); e != api.ErrRingForm {
		t.Errorf("P13.1: Check(%v): %d", r, e)
	}
	for id := -2; id < 18; id++ {
		if got := State(r, id); got != 0 {
			t.Errorf("P13.1: State(%v, %d): %d", r, id, got)
		}
		for _, s := range steps() {
			if got, e := s.do(r, id); e != api.ErrRingForm || got.Epoch != 0 || len(got.Members) != 0 {
				t.Errorf("P13.2: %s(%v, %d): %v, %d", s.what, r, id, got, e)
			}
		}
	}
	for rf := -1; rf < 8; rf++ {
		if got, e := Replicas(r, 7, rf); e != api.ErrRingForm || len(got) != 0 {
			t.Errorf("P13.3: Replicas(%v, 7, %d): %v, %d", r, rf, got, e)
		}
	}
	if got, e := Encode(r); e != api.ErrRingForm || len(got) != 0 {
		t.Errorf("P13.4: Encode(%v): %x, %d", r, got, e)
	}
}

// wantTaken: the ring may be, and each call takes it.
func wantTaken(t *testing.T, r api.Ring) {
	t.Helper()
	if e := Check(r); e != api.OK {
		t.Errorf("P13.1: Check(%v): %d", r, e)
	}
	for id := -2; id < 18; id++ {
		want := 0
		for _, m := range r.Members {
			if m.ID == id {
				want = m.State
			}
		}
		if got := State(r, id); got != want {
			t.Errorf("P13.1: State(%v, %d): %d, not %d", r, id, got, want)
		}
		for _, s := range steps() {
			s.wantAsModel(t, r, id)
		}
	}
	for rf := -1; rf < 8; rf++ {
		wantReplicas(t, r, 7, rf)
	}
	b, e := Encode(r)
	if e != api.OK || !bytes.Equal(b, modelBytes(r)) {
		t.Errorf("P13.4: Encode(%v): %x, %d", r, b, e)
	}
	if got, e := Decode(b); e != api.OK || told(got) != told(r) {
		t.Errorf("P13.5: Decode(%x): %v, %d, not %v", b, got, e, r)
	}
}

// wantMayBe holds a ring against the model, and tells what that says.
func wantMayBe(t *testing.T, r api.Ring) bool {
	t.Helper()
	if modelMayBe(r) {
		wantTaken(t, r)
		return true
	}
	wantRefused(t, r)
	return false
}

// chance makes rings that may be.
type chance struct {
	*rand.Rand
}

func newChance(seed int64) chance {
	return chance{rand.New(rand.NewSource(seed))}
}

// tokens are at most n, below most and a few that go round the end.
func (c chance) tokens(n int, most uint32) []uint32 {
	var out []uint32
	for range 1 + c.Intn(n) {
		v := c.Uint32() % most
		if c.Intn(5) == 0 {
			v = -v
		}
		out = append(out, v)
	}
	slices.Sort(out)
	return slices.Compact(out)
}

// ring has members of every state; small tokens, so that many are alike, or such of all sizes.
func (c chance) ring() api.Ring {
	most := []uint32{2, 5, 20, math.MaxUint32}[c.Intn(4)]
	n := []int{1, 4, 64}[c.Intn(3)]
	chosen := c.Intn(4)
	r := api.Ring{Epoch: c.Uint64()}
	for id := range 16 {
		if c.Intn(4) <= chosen {
			r.Members = append(r.Members, of(id, 1+c.Intn(3), c.tokens(n, most)...))
		}
	}
	return r
}

// hashes are those at which something may change: at each token, ahead of it and behind.
func hashes(rs ...api.Ring) []uint32 {
	out := []uint32{0, 1, 1 << 31, math.MaxUint32}
	for _, r := range rs {
		for _, m := range r.Members {
			for _, token := range m.Tokens {
				out = append(out, token-1, token, token+1)
			}
		}
	}
	slices.Sort(out)
	return slices.Compact(out)
}
