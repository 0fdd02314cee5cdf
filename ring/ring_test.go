package ring

import (
	"fmt"
	"math"
	"slices"
	"testing"

	"tidewrack/api"
)

func TestTokensWrittenOut(t *testing.T) {
	for id, want := range map[int][]uint32{
		0:  {0x0e769314, 0x0f7694a7, 0x1076963a, 0x117697cd},
		1:  {0xeb741d64, 0xec741ef7, 0xed74208a, 0xee74221d},
		8:  {0x3e8a665c, 0x3f8a67ef, 0x408a6982, 0x418a6b15},
		15: {0xcd82f8b4, 0xce82fa47, 0xcf82fbda, 0xd082fd6d},
	} {
		if got := Tokens(id); !slices.Equal(got, want) {
			t.Errorf("P13.1: Tokens(%d): %x, not %x", id, got, want)
		}
	}
}

// TestTokens: each ingester's own, and those of numbers that are no ingester's, which are laid as codec lays them.
func TestTokens(t *testing.T) {
	ids := []int{16, 127, 128, 129, 16383, 16384, 1 << 40, math.MaxInt, -1, -2, math.MinInt}
	for id := range 16 {
		ids = append(ids, id)
	}
	for _, id := range ids {
		got := Tokens(id)
		if !slices.Equal(got, modelTokens(id)) {
			t.Errorf("P13.1: Tokens(%d): %x, not %x", id, got, modelTokens(id))
		}
		if e := Check(ringOf(0, of(5, api.RingJoin, got...))); e != api.OK {
			t.Errorf("P13.1: Tokens(%d) are none that may be: %x", id, got)
		}
	}
}

// TestMembersThatMayBe: each ID, State and list of tokens at its edges, with all others.
func TestMembersThatMayBe(t *testing.T) {
	lists := [][]uint32{
		nil, {}, {0}, {math.MaxUint32}, {0, math.MaxUint32}, {1, 2}, {1, 2, 3}, upFrom(0, 63), upFrom(5, 64), upFrom(math.MaxUint32-63, 64),
		{1, 1}, {0, 0}, {2, 1}, {1, 2, 2}, {1, 3, 2}, {2, 1, 3}, {math.MaxUint32, 0}, upFrom(0, 65), upFrom(0, 66), upFrom(7, 1000), append(upFrom(0, 63), 62), append(upFrom(1, 63), 0),
	}
	some, none := 0, 0
	for _, id := range []int{math.MinInt, -1, 0, 1, 7, 14, 15, 16, 17, 1 << 32, math.MaxInt} {
		for _, state := range []int{math.MinInt, -2, -1, 0, 1, 2, 3, 4, 5, 1<<32 + 2, math.MaxInt} {
			for _, tokens := range lists {
				if wantMayBe(t, ringOf(3, of(id, state, tokens...))) {
					some++
				} else {
					none++
				}
			}
		}
	}
	if some != 5*3*8 || none != 11*11*len(lists)-some {
		t.Errorf("%d members may be, %d not", some, none)
	}
}

// TestMembersInOrder: all lists of at most four members out of five IDs; one wrong member anywhere is enough.
func TestMembersInOrder(t *testing.T) {
	lists := [][]api.Member{nil}
	for i := 0; i < len(lists); i++ {
		for _, id := range []int{0, 1, 5, 15, 16} {
			if len(lists[i]) < 4 {
				lists = append(lists, append(slices.Clone(lists[i]), of(id, 2, 9)))
			}
		}
	}
	some := 0
	for _, ms := range lists {
		if wantMayBe(t, ringOf(1, ms...)) {
			some++
			for i := range ms {
				for _, wrong := range []api.Member{{ID: ms[i].ID, State: 2}, of(ms[i].ID, 0, 9), of(ms[i].ID, 1, 9, 9), of(-1, 2, 9)} {
					more := slices.Clone(ms)
					more[i] = wrong
					wantRefused(t, ringOf(1, more...))
				}
			}
		}
	}
	if some != 16 {
		t.Errorf("%d lists may be", some)
	}
}

// TestAllMembers: there are sixteen at most.
func TestAllMembers(t *testing.T) {
	var ms []api.Member
	for id := range 16 {
		ms = append(ms, of(id, 1+id%3, upFrom(uint32(id), 64)...))
		wantTaken(t, ringOf(uint64(id), ms...))
	}
	wantRefused(t, ringOf(0, append(ms, of(16, 2, 1))...))
	wantRefused(t, ringOf(0, append(slices.Clone(ms), of(15, 2, 1))...))
	wantRefused(t, ringOf(0, append(slices.Clone(ms), ms...)...))
}

// TestEpochs: any may be, the last one is none to go on from.
func TestEpochs(t *testing.T) {
	for _, epoch := range []uint64{0, 1, 127, 128, 1 << 32, 1 << 63, math.MaxUint64 - 2, math.MaxUint64 - 1, math.MaxUint64} {
		wantTaken(t, ringOf(epoch))
		r := ringOf(epoch, of(2, 1, 5), of(3, 2, 6), of(4, 3, 7))
		wantTaken(t, r)
		for i, s := range steps() {
			got, e := s.do(r, 1+i)
			if epoch == math.MaxUint64 && (e != api.ErrRingForm || told(got) != told(api.Ring{})) {
				t.Errorf("P13.2: %s behind the last epoch: %v, %d", s.what, got, e)
			}
			if epoch < math.MaxUint64 && (e != api.OK || got.Epoch != epoch+1) {
				t.Errorf("P13.2: %s at epoch %d: %v, %d", s.what, epoch, got, e)
			}
		}
	}
}

func TestExamples(t *testing.T) {
	r, e := Join(api.Ring{}, 0)
	if want := "{1 [{0 1 " + fmt.Sprint(Tokens(0)) + "}]}"; e != api.OK || told(r) != want {
		t.Errorf("P13.2: Join: %v, %d", r, e)
	}
	if _, e := Join(r, 0); e != api.ErrRingMember {
		t.Errorf("P13.2: Join twice: %d", e)
	}
	if _, e := Leave(r, 0); e != api.ErrRingState {
		t.Errorf("P13.2: Leave of one that joins: %d", e)
	}
	if _, e := Activate(api.Ring{}, 0); e != api.ErrRingMember {
		t.Errorf("P13.2: Activate of none: %d", e)
	}
	r, e = Activate(r, 0)
	if e != api.OK || r.Epoch != 2 {
		t.Errorf("P13.2: Activate: %v, %d", r, e)
	}
	if ids, e := Replicas(r, 7, 1); e != api.OK || !slices.Equal(ids, []int{0}) {
		t.Errorf("P13.3: Replicas(7, 1): %v, %d", ids, e)
	}
	if ids, e := Replicas(r, 7, 2); e != api.ErrRingFew || len(ids) != 0 {
		t.Errorf("P13.3: Replicas(7, 2): %v, %d", ids, e)
	}
	for i, s := range steps()[2:] {
		r, e = s.do(r, 0)
		if e != api.OK || r.Epoch != uint64(3+i) {
			t.Errorf("P13.2: %s: %v, %d", s.what, r, e)
		}
	}
	if len(r.Members) != 0 {
		t.Errorf("P13.2: Gone: %v", r)
	}
}

// TestEachStepInEachRing: all rings of four ingesters that steps can make, each step in each.
func TestEachStepInEachRing(t *testing.T) {
	seen := map[string]struct{}{}
	work := []api.Ring{{}}
	for len(work) > 0 {
		r := work[0]
		work = work[1:]
		for _, s := range steps() {
			for _, id := range []int{0, 3, 7, 15} {
				next := s.wantAsModel(t, r, id)
				key := fmt.Sprint(next.Members)
				if _, ok := seen[key]; !ok {
					seen[key] = struct{}{}
					work = append(work, next)
				}
			}
			for _, id := range []int{-1, 1, 16, math.MinInt, math.MaxInt} {
				s.wantAsModel(t, r, id)
			}
		}
	}
	if len(seen) != 4*4*4*4 {
		t.Errorf("%d rings", len(seen))
	}
}

// TestTokensStay: what the others, and the one that is turned, came with.
func TestTokensStay(t *testing.T) {
	c := newChance(1)
	for range 3000 {
		r := c.ring()
		for _, s := range steps() {
			s.wantAsModel(t, r, c.Intn(18)-1)
		}
	}
}

// TestOrderOfErrors: what may not be goes ahead of who is there, that ahead of the state, the form of rf ahead of how few there are.
func TestOrderOfErrors(t *testing.T) {
	r := ringOf(5, of(1, 1, 5), of(2, 2, 6), of(3, 3, 7))
	last := ringOf(math.MaxUint64, r.Members...)
	wrong := ringOf(5, append(slices.Clone(r.Members), of(3, 3, 7))...)
	for _, s := range steps() {
		for id := range 16 {
			for _, x := range []api.Ring{last, wrong} {
				if got, e := s.do(x, id); e != api.ErrRingForm || told(got) != told(api.Ring{}) {
					t.Errorf("P13.2: %s(%v, %d): %v, %d", s.what, x, id, got, e)
				}
			}
			want := api.OK
			there := id >= 1 && id <= 3
			switch {
			case there == (s.from == 0):
				want = api.ErrRingMember
			case there && id != s.from:
				want = api.ErrRingState
			}
			if got, e := s.do(r, id); e != want || e != api.OK && told(got) != told(api.Ring{}) {
				t.Errorf("P13.2: %s(%v, %d): %v, %d, not %d", s.what, r, id, got, e, want)
			}
		}
	}
	for rf, want := range map[int]api.Errno{math.MinInt: 130, -1: 130, 0: 130, 1: 0, 2: 133, 5: 133, 6: 130, math.MaxInt: 130} {
		if got, e := Replicas(r, 0, rf); e != want || e != api.OK && len(got) != 0 {
			t.Errorf("P13.3: rf %d: %v, %d, not %d", rf, got, e, want)
		}
	}
}
