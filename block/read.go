package block

import (
	"bytes"
	"slices"

	"tidewrack/api"
	"tidewrack/chunk"
	"tidewrack/codec"
	"tidewrack/metas"
	"tidewrack/seal"
)

// mostTexts: each label of a block's series may bring two.
const mostTexts = 2 * api.MaxLabels * api.MaxSeries

// gaveUp is what the reader throws.
type gaveUp struct{}

func must(holds bool) {
	if !holds {
		panic(gaveUp{})
	}
}

// caught tells what is read, or that the reader gave up. A panic that must did not throw is a fault of the program: it isn't to pass for bytes that are wrong.
func caught[T any](read func() T) (v T, ok bool) {
	defer func() {
		switch thrown := recover().(type) {
		case nil, gaveUp:
		default:
			panic(thrown)
		}
	}()
	return read(), true
}

// reader stands at a place of bytes. Its methods read what stands there and go on behind it, or give up by panic, so that nobody need ask whether they could.
type reader struct {
	b  []byte
	at int
}

// open stands behind the mark of sealed bytes, whose seal it has taken off.
func open(b []byte, mark string) *reader {
	body, ok := seal.Open(b)
	must(ok && bytes.HasPrefix(body, []byte(mark)))
	return &reader{body, len(mark)}
}

// next reads by one of codec's calls.
func next[T any](r *reader, read func([]byte, int) (T, int, api.Errno)) T {
	v, behind, e := read(r.b, r.at)
	must(e == api.OK)
	r.at = behind
	return v
}

func (r *reader) number() uint64 {
	return next(r, codec.Uint)
}

func (r *reader) signed() int64 {
	return next(r, codec.Int)
}

func (r *reader) text() string {
	return next(r, codec.Text)
}

// below reads a number below bound. It is held against it as it is: as an int it might wrap round.
func (r *reader) below(bound int) int {
	v := r.number()
	must(v < uint64(bound))
	return int(v)
}

func (r *reader) end() {
	must(r.at == len(r.b))
}

// block gives up at texts that the series' labels would not bring, and so at any that are out of order or not asked for.
func (r *reader) block() []api.Series {
	texts := r.texts()
	ss := make([]api.Series, r.below(api.MaxSeries+1))
	for i := range ss {
		ss[i].Labels = r.labels(texts)
	}
	for i := range ss {
		ss[i].Points = r.points()
	}
	r.end()
	must(seriesMayBe(ss) && slices.Equal(texts, textsOf(ss)))
	return ss
}

func (r *reader) texts() []string {
	texts := make([]string, r.below(mostTexts+1))
	for i := range texts {
		texts[i] = r.text()
	}
	return texts
}

func (r *reader) labels(texts []string) []api.Label {
	ls := make([]api.Label, r.below(api.MaxLabels+1))
	for i := range ls {
		ls[i].Name = texts[r.below(len(texts))]
		ls[i].Value = texts[r.below(len(texts))]
	}
	return ls
}

func (r *reader) points() []api.Point {
	size := r.number()
	must(size <= uint64(len(r.b)-r.at))
	from := r.at
	r.at += int(size)
	ps, e := chunk.Decode(r.b[from:r.at])
	must(e == api.OK)
	return ps
}

func (r *reader) meta() api.Meta {
	var m api.Meta
	m.ID = r.number()
	m.Level = r.below(metas.CountBound)
	m.Series = r.below(metas.CountBound)
	m.Points = r.below(metas.CountBound)
	m.Min = r.signed()
	m.Max = r.signed()
	m.Sources = make([]uint64, r.below(api.MaxSource+1))
	for i := range m.Sources {
		m.Sources[i] = r.number()
	}
	r.end()
	must(metas.MayBe(m))
	return m
}
