package index

import (
	"slices"
	"testing"
	"time"

	"tidewrack/api"
)

// roomyMeta has sources with something behind their length.
func roomyMeta(m api.Meta) api.Meta {
	m.Sources = append(slices.Clone(m.Sources), 77, 78)[:len(m.Sources)]
	return m
}

// plain is what roomy says, without anything behind the lengths.
func plain() api.Index {
	ix := indexOf(live(meta(1, 0, 9, 4, 5)), live(meta(2, 5, 20)), dead(6, meta(3, 0, 9, 1)), live(meta(7, 5, 20, 1, 2)))
	ix.Version, ix.Floor = 6, 3
	return ix
}

// roomy is an index, each of its lists with something behind its length.
func roomy() api.Index {
	ix := plain()
	for i, b := range ix.Blocks {
		ix.Blocks[i].Meta = roomyMeta(b.Meta)
	}
	ix.Blocks = append(ix.Blocks, live(meta(0, 9, 0, 9, 1)), dead(9, meta(9, 0, 99, 1, 2, 7)))[:len(ix.Blocks)]
	return ix
}

// whole tells what lies behind the lengths, too.
func whole(ix api.Index) string {
	bs := slices.Clone(ix.Blocks[:cap(ix.Blocks)])
	for i, b := range bs {
		bs[i].Meta.Sources = b.Meta.Sources[:cap(b.Meta.Sources)]
	}
	return told(api.Index{Version: ix.Version, Floor: ix.Floor, Blocks: bs})
}

// spoil writes into all lists of entries, and behind them.
func spoil(bs []api.Entry) {
	bs = bs[:cap(bs)]
	for i, b := range bs {
		sources := b.Meta.Sources[:cap(b.Meta.Sources)]
		for k := range sources {
			sources[k] = 1234
		}
		bs[i] = dead(13, meta(13, 13, 13))
	}
}

// changes are those that hand out an index, whether there is something to change or not.
func changes() []change {
	out := []change{
		adding(roomyMeta(meta(4, 0, 9, 1))), adding(meta(0, 0, 9)), adding(meta(9, 0, 9)), adding(meta(2, 0, 9)), removing(1), removing(2), removing(7), removing(5), raising(10), raising(-9), marking(8),
		{what: "Decode", do: func(ix api.Index) (api.Index, api.Errno) {
			b, _ := Encode(ix)
			return Decode(b)
		}},
		{what: "Live", do: func(ix api.Index) (api.Index, api.Errno) {
			return allLive(Live(ix)...), api.OK
		}},
	}
	return out
}

// TestWhatComesIn: neither changed, nor kept, nor handed out.
func TestWhatComesIn(t *testing.T) {
	for _, c := range changes() {
		ix := roomy()
		was := whole(ix)
		got, e := c.do(ix)
		if e != api.OK || whole(ix) != was {
			t.Errorf("R3: %s: %d, changed what was handed in: %s", c.what, e, whole(ix))
		}
		want := told(got)
		spoil(ix.Blocks)
		if told(got) != want {
			t.Errorf("R3: %s shares memory with what was handed in: %v", c.what, got)
		}
		ix = roomy()
		got, _ = c.do(ix)
		spoil(got.Blocks)
		if whole(ix) != was {
			t.Errorf("R3: %s hands out what was handed in: %s", c.what, whole(ix))
		}
	}
	ix := roomy()
	was := whole(ix)
	Check(ix)
	Encode(ix)
	Covered(ix, 4, 0)
	Due(ix, 9, 0)
	Plan(ix, 9)
	Overlaps(ix)
	Add(ix, meta(1, 5, 4))
	if whole(ix) != was {
		t.Errorf("R3: changed what was handed in: %s", whole(ix))
	}
}

// TestAddedMeta: it is neither changed nor kept.
func TestAddedMeta(t *testing.T) {
	m := roomyMeta(meta(4, 0, 9, 1, 5))
	room := m.Sources[:cap(m.Sources)]
	was := told(room)
	ix, _ := Add(roomy(), m)
	want := told(ix)
	if told(room) != was {
		t.Errorf("R3: changed what was handed in: %v", room)
	}
	clear(room)
	if told(ix) != want {
		t.Errorf("R3: keeps what was handed in: %v", ix)
	}
	m = roomyMeta(meta(4, 0, 9, 1, 5))
	ix, _ = Add(roomy(), m)
	spoil(ix.Blocks)
	if told(m) != told(meta(4, 0, 9, 1, 5)) {
		t.Errorf("R3: hands out what was handed in: %v", m)
	}
}

// TestSpareRoom: what stands behind the lengths counts for nothing.
func TestSpareRoom(t *testing.T) {
	if !wantAll(t, roomy()) {
		t.Error("R3: it may not be")
	}
	for _, c := range changes() {
		got, e := c.do(roomy())
		want, wantE := c.do(plain())
		if e != wantE || told(got) != told(want) {
			t.Errorf("R3: %s: %v, %d, not %v, %d", c.what, got, e, want, wantE)
		}
	}
	for id := range uint64(80) {
		if Covered(roomy(), id, 5) != Covered(plain(), id, 5) {
			t.Errorf("R3: Covered read behind a length: %d", id)
		}
	}
	b, _ := Encode(plain())
	room := append(slices.Clone(b), 1, 2, 3)
	if ix, e := Decode(room[:len(b)]); e != api.OK || told(ix) != told(plain()) || !slices.Equal(room, append(b, 1, 2, 3)) {
		t.Errorf("R3: Decode read or wrote behind the length: %v, %d, %x", ix, e, room)
	}
}

// TestWhatGoesOut: no two lists of an answer share memory, and nothing stands behind their lengths.
func TestWhatGoesOut(t *testing.T) {
	for _, c := range changes() {
		ix, _ := c.do(roomy())
		want := told(ix)
		if c.what != "Live" {
			for _, b := range ix.Blocks[len(ix.Blocks):cap(ix.Blocks)] {
				if told(b) != told(api.Entry{}) {
					t.Errorf("R3: %s: an entry behind the answer's length: %v", c.what, b)
				}
			}
		}
		for _, b := range ix.Blocks {
			for _, id := range b.Meta.Sources[len(b.Meta.Sources):cap(b.Meta.Sources)] {
				if id != 0 {
					t.Errorf("R3: %s: a source behind the answer's length: %d", c.what, id)
				}
			}
			_ = append(b.Meta.Sources, 1234, 1234)
		}
		if told(ix) != want {
			t.Errorf("R3: lists of %s share memory: %v", c.what, ix)
		}
		for i := range ix.Blocks {
			rest := told(ix.Blocks[i+1:])
			spoil(ix.Blocks[i : i+1 : i+1])
			if told(ix.Blocks[i+1:]) != rest {
				t.Errorf("R3: lists of %s share memory: %v", c.what, ix)
			}
		}
		if again, e := c.do(roomy()); e != api.OK || told(again) != want {
			t.Errorf("R3: %s hands out what it keeps: %v", c.what, again)
		}
	}
	ms := Live(roomy())
	for _, m := range ms[len(ms):cap(ms)] {
		if told(m) != told(api.Meta{}) {
			t.Errorf("R3: Live: a meta behind the answer's length: %v", m)
		}
	}
}

// TestListsGoOut: IDs and bytes are new memory, too, with nothing behind.
func TestListsGoOut(t *testing.T) {
	ix := roomy()
	was := whole(ix)
	due, planned := Due(ix, 9, 0), Plan(ix, 9)
	b, _ := Encode(ix)
	for _, ids := range [][]uint64{due, planned} {
		if spare := ids[len(ids):cap(ids)]; slices.ContainsFunc(spare, func(id uint64) bool { return id != 0 }) {
			t.Errorf("R3: behind the length: %v", spare)
		}
		clear(ids[:cap(ids)])
	}
	if spare := b[len(b):cap(b)]; slices.ContainsFunc(spare, func(x byte) bool { return x != 0 }) {
		t.Errorf("R3: behind the length: %x", spare)
	}
	from, _ := Decode(b)
	clear(b[:cap(b)])
	if whole(ix) != was || told(from) != told(plain()) {
		t.Errorf("R3: %s, %v", whole(ix), from)
	}
	wantDue(t, ix, 9, 0)
	wantPlan(t, ix, 9)
}

// TestNilAndEmpty are one.
func TestNilAndEmpty(t *testing.T) {
	for _, ix := range []api.Index{{Version: 4}, {Version: 4, Blocks: []api.Entry{}}} {
		if !wantAll(t, ix) {
			t.Errorf("R2: %v may not be", ix)
		}
	}
	for _, sources := range [][]uint64{nil, {}} {
		if !wantAll(t, allLive(api.Meta{ID: 1, Sources: sources})) {
			t.Errorf("R2: %v may not be", sources)
		}
	}
	for _, b := range [][]byte{nil, {}} {
		wantNone(t, "no bytes", b)
	}
}

// within fails if what is done takes longer than its size explains.
func within(t *testing.T, most time.Duration, do func()) {
	t.Helper()
	begun := time.Now()
	do()
	if took := time.Since(begun); took > most {
		t.Errorf("R1: %v, above %v", took, most)
	}
}

// TestFullIndexes: as many entries as there may be, with as many sources, which all overlap and don't fit, or do.
func TestFullIndexes(t *testing.T) {
	var crowded, apart api.Index
	for i := range uint64(256) {
		crowded.Blocks = append(crowded.Blocks, live(meta(i, 0, 9, upFrom(1000*i+1000, 63)...)))
		apart.Blocks = append(apart.Blocks, live(meta(i, int64(30000*i), int64(30000*i)+9, upFrom(i, 64)...)))
	}
	within(t, 10*time.Second, func() {
		for range 5 {
			if ids := Plan(crowded, highest); len(ids) > 0 {
				t.Errorf("P14.3: %v", ids)
			}
			if ids := Plan(apart, highest); len(ids) > 0 {
				t.Errorf("P14.3: %v", ids)
			}
			for _, ix := range []api.Index{crowded, apart} {
				marked, e := Mark(ix, 0)
				b, f := Encode(marked)
				again, g := Decode(b)
				if e != api.OK || f != api.OK || g != api.OK || len(again.Blocks) != 256 {
					t.Errorf("P14.1: %d, %d, %d", e, f, g)
				}
				for id := range uint64(256) {
					if !Covered(ix, id, 0) {
						t.Errorf("P14.3: %d is not covered", id)
					}
				}
			}
		}
	})
}

// TestFarTooMuch: indexes and bytes that are wrong at once, whatever their size.
func TestFarTooMuch(t *testing.T) {
	within(t, 5*time.Second, func() {
		many := indexOf(slices.Repeat([]api.Entry{live(meta(1, 0, 9))}, 1000000)...)
		long := allLive(meta(1, 0, 9, upFrom(0, 10000000)...))
		for range 10 {
			if Check(many) != api.ErrIndexForm || Check(long) != api.ErrIndexForm || len(Plan(many, 0)) > 0 || len(Live(long)) > 0 {
				t.Error("P14.1: far too much may be")
			}
		}
		wantNone(t, "many noughts", sealed(append([]byte{1, 0, 255, 255, 255, 15}, make([]byte, 10000000)...)))
	})
}
