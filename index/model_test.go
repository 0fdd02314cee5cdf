package index

import (
	"bytes"
	"encoding/binary"
	"fmt"
	"hash/crc32"
	"maps"
	"math"
	"math/big"
	"math/rand"
	"slices"
	"testing"

	"tidewrack/api"
)

// The models say what chapter 14 says by other means than the package: sets are maps, moments are numbers without bounds, nothing is in order until it is told.

const (
	lowest  = math.MinInt64
	highest = math.MaxInt64
)

// meta is one of level 1.
func meta(id uint64, from int64, to int64, sources ...uint64) api.Meta {
	return api.Meta{ID: id, Min: from, Max: to, Level: 1, Sources: sources}
}

func level(n int, m api.Meta) api.Meta {
	m.Level = n
	return m
}

func live(m api.Meta) api.Entry {
	return api.Entry{Meta: m}
}

func dead(at int64, m api.Meta) api.Entry {
	return api.Entry{Meta: m, Marked: true, At: at}
}

// indexOf has the least floor.
func indexOf(bs ...api.Entry) api.Index {
	return api.Index{Floor: -api.MaxTime, Blocks: bs}
}

// allLive has the least floor, too.
func allLive(ms ...api.Meta) api.Index {
	ix := indexOf()
	for _, m := range ms {
		ix.Blocks = append(ix.Blocks, live(m))
	}
	return ix
}

func floored(floor int64, ix api.Index) api.Index {
	ix.Floor = floor
	return ix
}

// upFrom has n numbers from v on.
func upFrom(v uint64, n int) []uint64 {
	var out []uint64
	for i := range n {
		out = append(out, v+uint64(i))
	}
	return out
}

// told is an index, or a list, as text; nil and empty lists are one there.
func told(x any) string {
	return fmt.Sprint(x)
}

func set[K comparable](list []K) map[K]struct{} {
	out := map[K]struct{}{}
	for _, x := range list {
		out[x] = struct{}{}
	}
	return out
}

func has[K comparable](list []K, x K) bool {
	_, found := set(list)[x]
	return found
}

func strictlySorted(list []uint64) bool {
	return slices.Equal(slices.Sorted(maps.Keys(set(list))), list)
}

func modelMetaMayBe(m api.Meta) bool {
	for _, n := range []int{m.Level, m.Series, m.Points} {
		if n != int(uint32(n)&math.MaxInt32) {
			return false
		}
	}
	return m.Min <= m.Max && len(m.Sources) <= 64 && strictlySorted(slices.Concat(nil, m.Sources))
}

func modelMayBe(ix api.Index) bool {
	var ids []uint64
	for _, b := range ix.Blocks {
		ids = append(ids, b.Meta.ID)
		if !modelMetaMayBe(b.Meta) || !b.Marked && b.At != 0 {
			return false
		}
	}
	return len(ids) <= 256 && strictlySorted(ids) && ix.Floor >= -1<<40 && ix.Floor <= 1<<40
}

// byID are the entries by their IDs.
func byID(ix api.Index) map[uint64]api.Entry {
	out := map[uint64]api.Entry{}
	for _, b := range ix.Blocks {
		out[b.Meta.ID] = b
	}
	return out
}

func with(ix api.Index, all map[uint64]api.Entry) api.Index {
	ix.Blocks = nil
	for _, id := range slices.Sorted(maps.Keys(all)) {
		ix.Blocks = append(ix.Blocks, all[id])
	}
	return ix
}

func modelAdd(ix api.Index, m api.Meta) (api.Index, api.Errno) {
	all := byID(ix)
	_, found := all[m.ID]
	switch {
	case !modelMayBe(ix) || !modelMetaMayBe(m):
		return api.Index{}, api.ErrIndexForm
	case len(ix.Blocks) >= 256:
		return api.Index{}, api.ErrIndexMany
	case !found:
		all[m.ID] = live(m)
	}
	return with(ix, all), api.OK
}

func modelRemove(ix api.Index, id uint64) (api.Index, api.Errno) {
	if !modelMayBe(ix) {
		return api.Index{}, api.ErrIndexForm
	}
	all := byID(ix)
	delete(all, id)
	return with(ix, all), api.OK
}

func modelRaise(ix api.Index, floor int64) (api.Index, api.Errno) {
	if !modelMayBe(ix) || floor > 1<<40 {
		return api.Index{}, api.ErrIndexForm
	}
	if floor > ix.Floor {
		ix.Floor = floor
	}
	return ix, api.OK
}

func modelMark(ix api.Index, now int64) (api.Index, api.Errno) {
	if !modelMayBe(ix) {
		return api.Index{}, api.ErrIndexForm
	}
	all := byID(ix)
	for _, b := range ix.Blocks {
		for _, id := range b.Meta.Sources {
			if x, found := all[id]; found && !b.Marked && !x.Marked && id != b.Meta.ID {
				all[id] = dead(now, x.Meta)
			}
		}
		if !b.Marked && b.Meta.Max < ix.Floor {
			all[b.Meta.ID] = dead(now, b.Meta)
		}
	}
	return with(ix, all), api.OK
}

func modelLive(ix api.Index) []api.Meta {
	if !modelMayBe(ix) {
		return nil
	}
	var out []api.Meta
	for _, b := range ix.Blocks {
		if !b.Marked {
			out = append(out, b.Meta)
		}
	}
	return out
}

func modelCovered(ix api.Index, id uint64, most int64) bool {
	if !modelMayBe(ix) {
		return false
	}
	covered := most < ix.Floor
	for _, b := range ix.Blocks {
		covered = covered || b.Meta.ID == id || has(b.Meta.Sources, id)
	}
	return covered
}

func modelDue(ix api.Index, now int64, delay int64) []uint64 {
	if !modelMayBe(ix) {
		return nil
	}
	var out []uint64
	for _, b := range ix.Blocks {
		gone := new(big.Int).Sub(big.NewInt(now), big.NewInt(b.At))
		if b.Marked && gone.Sign() >= 0 && gone.Cmp(big.NewInt(max(delay, 0))) >= 0 {
			out = append(out, b.Meta.ID)
		}
	}
	return out
}

// modelOverlap: one of the two moments at which one begins lies in both.
func modelOverlap(a, b api.Meta) bool {
	begin := max(a.Min, b.Min)
	return begin <= a.Max && begin <= b.Max
}

func modelOverlaps(ix api.Index) bool {
	ms := modelLive(ix)
	for i, a := range ms {
		for _, b := range ms[:i] {
			if modelOverlap(a, b) {
				return true
			}
		}
	}
	return false
}

func modelFits(ms ...api.Meta) bool {
	var numbers []uint64
	for _, m := range ms {
		numbers = append(append(numbers, m.ID), m.Sources...)
	}
	return len(set(numbers)) <= 64
}

// modelGreedy are the IDs of the chosen ones and of each of the others that still fits.
func modelGreedy(chosen []api.Meta, others []api.Meta) []uint64 {
	for _, m := range others {
		if modelFits(append(slices.Clone(chosen), m)...) {
			chosen = append(chosen, m)
		}
	}
	var ids []uint64
	for _, m := range chosen {
		ids = append(ids, m.ID)
	}
	slices.Sort(ids)
	return ids
}

func modelPlan(ix api.Index, now int64) []uint64 {
	ms := modelLive(ix)
	slices.SortStableFunc(ms, func(a, b api.Meta) int { return big.NewInt(a.Min).Cmp(big.NewInt(b.Min)) })
	for _, a := range ms {
		var others []api.Meta
		fits := false
		for _, b := range ms {
			if b.ID != a.ID && modelOverlap(a, b) {
				others = append(others, b)
				fits = fits || modelFits(a, b)
			}
		}
		if fits {
			return modelGreedy([]api.Meta{a}, others)
		}
	}
	return modelTogether(ms, now)
}

// modelTogether tries each number k of which an entry might lie within.
func modelTogether(ms []api.Meta, now int64) []uint64 {
	width := big.NewInt(3 * 7200)
	one := big.NewInt(1)
	for _, m := range ms {
		k := new(big.Int).Div(big.NewInt(m.Min), width) // Euclid's: rounded down
		from := new(big.Int).Mul(k, width)
		behind := new(big.Int).Mul(new(big.Int).Add(k, one), width)
		var group []api.Meta
		for _, x := range ms {
			if x.Level < 2 && big.NewInt(x.Min).Cmp(from) >= 0 && big.NewInt(x.Max).Cmp(behind) < 0 {
				group = append(group, x)
			}
		}
		if len(group) < 2 || behind.Cmp(big.NewInt(now)) > 0 {
			continue
		}
		if ids := modelGreedy(nil, group); len(ids) > 1 {
			return ids
		}
		return nil
	}
	return nil
}

func sealed(body []byte) []byte {
	return binary.BigEndian.AppendUint32(bytes.Clone(body), crc32.ChecksumIEEE(body))
}

// modelMetaBytes are a meta's bytes, be it what it may.
func modelMetaBytes(m api.Meta) []byte {
	b := []byte("TWM\x01")
	for _, v := range []uint64{m.ID, uint64(m.Level), uint64(m.Series), uint64(m.Points)} {
		b = binary.AppendUvarint(b, v)
	}
	b = binary.AppendVarint(binary.AppendVarint(b, m.Min), m.Max)
	b = binary.AppendUvarint(b, uint64(len(m.Sources)))
	for _, id := range m.Sources {
		b = binary.AppendUvarint(b, id)
	}
	return sealed(b)
}

// modelBody are an index' bytes ahead of the sum, be it what it may.
func modelBody(ix api.Index) []byte {
	b := binary.AppendVarint(binary.AppendUvarint(nil, ix.Version), ix.Floor)
	b = binary.AppendUvarint(b, uint64(len(ix.Blocks)))
	for _, x := range ix.Blocks {
		m := modelMetaBytes(x.Meta)
		b = append(binary.AppendUvarint(b, uint64(len(m))), m...)
		b = append(b, map[bool]byte{true: 1}[x.Marked])
		b = binary.AppendVarint(b, x.At)
	}
	return b
}

// modelReader reads by the library; whatever can't be read is 0, for what was read is laid anew in the end.
type modelReader struct {
	left []byte
}

func (r *modelReader) number() uint64 {
	v, n := binary.Uvarint(r.left)
	r.left = r.left[max(n, 0):]
	return v
}

func (r *modelReader) signed() int64 {
	v, n := binary.Varint(r.left)
	r.left = r.left[max(n, 0):]
	return v
}

func (r *modelReader) meta() api.Meta {
	r.left = r.left[min(4, len(r.left)):]
	m := api.Meta{ID: r.number(), Level: int(r.number()), Series: int(r.number()), Points: int(r.number())}
	m.Min, m.Max = r.signed(), r.signed()
	for range min(r.number(), 100) {
		m.Sources = append(m.Sources, r.number())
	}
	return m
}

// modelIn has the index whose body this is: whatever can be read is laid anew, and must be the same.
func modelIn(body []byte) (api.Index, bool) {
	r := modelReader{body}
	ix := api.Index{Version: r.number(), Floor: r.signed()}
	for range min(r.number(), 300) {
		n := min(r.number(), uint64(len(r.left)))
		inner := modelReader{r.left[:n]}
		r.left = r.left[n:]
		ix.Blocks = append(ix.Blocks, api.Entry{Meta: inner.meta(), Marked: r.number() == 1, At: r.signed()})
	}
	return ix, modelMayBe(ix) && bytes.Equal(modelBody(ix), body)
}

// change is one of the calls that hand out an index.
type change struct {
	what  string
	do    func(ix api.Index) (api.Index, api.Errno)
	model func(ix api.Index) (api.Index, api.Errno)
}

func adding(m api.Meta) change {
	return change{
		fmt.Sprintf("Add %v", m),
		func(ix api.Index) (api.Index, api.Errno) { return Add(ix, m) },
		func(ix api.Index) (api.Index, api.Errno) { return modelAdd(ix, m) },
	}
}

func removing(id uint64) change {
	return change{
		fmt.Sprintf("Remove %d", id),
		func(ix api.Index) (api.Index, api.Errno) { return Remove(ix, id) },
		func(ix api.Index) (api.Index, api.Errno) { return modelRemove(ix, id) },
	}
}

func raising(floor int64) change {
	return change{
		fmt.Sprintf("Raise to %d", floor),
		func(ix api.Index) (api.Index, api.Errno) { return Raise(ix, floor) },
		func(ix api.Index) (api.Index, api.Errno) { return modelRaise(ix, floor) },
	}
}

func marking(now int64) change {
	return change{
		fmt.Sprintf("Mark at %d", now),
		func(ix api.Index) (api.Index, api.Errno) { return Mark(ix, now) },
		func(ix api.Index) (api.Index, api.Errno) { return modelMark(ix, now) },
	}
}

// wantAsModel holds a change against the model, and what went in against what it was.
func (c change) wantAsModel(t *testing.T, ix api.Index) api.Index {
	t.Helper()
	was := told(ix)
	want, wantE := c.model(ix)
	got, e := c.do(ix)
	if e != wantE || told(got) != told(want) {
		t.Errorf("P14.2: %s of %v: %v, %d, not %v, %d", c.what, ix, got, e, want, wantE)
	}
	if told(ix) != was {
		t.Errorf("R3: %s has changed %s to %v", c.what, was, ix)
	}
	return got
}

func wantPlan(t *testing.T, ix api.Index, now int64) []uint64 {
	t.Helper()
	got, want := Plan(ix, now), modelPlan(ix, now)
	if !slices.Equal(got, want) {
		t.Errorf("P14.3: Plan(%v, %d): %v, not %v", ix, now, got, want)
	}
	return got
}

func wantDue(t *testing.T, ix api.Index, now int64, delay int64) {
	t.Helper()
	if got, want := Due(ix, now, delay), modelDue(ix, now, delay); !slices.Equal(got, want) {
		t.Errorf("P14.3: Due(%v, %d, %d): %v, not %v", ix, now, delay, got, want)
	}
}

func wantCovered(t *testing.T, ix api.Index, id uint64, most int64) {
	t.Helper()
	if got, want := Covered(ix, id, most), modelCovered(ix, id, most); got != want {
		t.Errorf("P14.3: Covered(%v, %d, %d): %v", ix, id, most, got)
	}
}

func wantLists(t *testing.T, ix api.Index) {
	t.Helper()
	if got, want := Live(ix), modelLive(ix); told(got) != told(want) {
		t.Errorf("P14.3: Live(%v): %v, not %v", ix, got, want)
	}
	if got, want := Overlaps(ix), modelOverlaps(ix); got != want {
		t.Errorf("P14.3: Overlaps(%v): %v", ix, got)
	}
}

// wantAll holds each call against the model, and tells whether the index may be.
func wantAll(t *testing.T, ix api.Index) bool {
	t.Helper()
	may := modelMayBe(ix)
	if e := Check(ix); (e == api.OK) != may || !may && e != api.ErrIndexForm {
		t.Errorf("P14.1: Check(%v): %d", ix, e)
	}
	b, e := Encode(ix)
	if may && (e != api.OK || !bytes.Equal(b, sealed(modelBody(ix)))) || !may && (e != api.ErrIndexForm || len(b) > 0) {
		t.Errorf("P14.1: Encode(%v): %x, %d", ix, b, e)
	}
	for _, c := range []change{adding(meta(2, 3, 4)), adding(meta(2, 4, 3)), removing(1), raising(4), raising(api.MaxTime + 1), marking(7)} {
		c.wantAsModel(t, ix)
	}
	wantLists(t, ix)
	wantDue(t, ix, 9, 0)
	wantPlan(t, ix, 9)
	wantCovered(t, ix, 1, 0)
	wantCovered(t, ix, 77, lowest)
	return may
}

// chance makes indexes that may be.
type chance struct {
	*rand.Rand
}

func newChance(seed int64) chance {
	return chance{rand.New(rand.NewSource(seed))}
}

// some are at most n numbers below most, rising.
func (c chance) some(n int, most int) []uint64 {
	var out []uint64
	for range c.Intn(n + 1) {
		out = append(out, uint64(c.Intn(most)))
	}
	slices.Sort(out)
	return slices.Compact(out)
}

// index has at most n entries of IDs below most, within the moments from -reach to reach, of lengths of at most length.
func (c chance) index(n int, most int, sources int, reach int64, length int64) api.Index {
	ix := api.Index{Version: c.Uint64(), Floor: c.Int63n(2*reach) - reach - length}
	for _, id := range c.some(n, most) {
		from := c.Int63n(2*reach+1) - reach
		m := api.Meta{ID: id, Min: from, Max: from + c.Int63n(length+1), Level: c.Intn(4), Sources: c.some(sources, most), Series: c.Intn(5), Points: c.Intn(1000)}
		if c.Intn(4) == 0 {
			ix.Blocks = append(ix.Blocks, dead(c.Int63n(20)-10, m))
		} else {
			ix.Blocks = append(ix.Blocks, live(m))
		}
	}
	return ix
}
