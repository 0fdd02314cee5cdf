package block

import (
	"bytes"
	"fmt"
	"math/rand"
	"slices"
	"strings"
	"testing"

	"tidewrack/api"
)

func TestThereAndBack(t *testing.T) {
	for _, ss := range samples() {
		b, _ := Encode(ss)
		got, e := Decode(b)
		wantSeries(t, "P9.4: Decode of Encode", got, e, ss)
		if !wantAsModel(t, told(ss), b[:len(b)-4]) {
			t.Errorf("P9.4: %s: no block's bytes to the model", told(ss))
		}
	}
}

// damage is bytes that are whole no more.
type damage struct {
	what string
	b    []byte
}

// damaged has b with each bit turned, each of its beginnings, and b with something behind.
func damaged(b []byte) []damage {
	var out []damage
	for i := range 8 * len(b) {
		turned := bytes.Clone(b)
		turned[i/8] ^= 1 << (i % 8)
		out = append(out, damage{fmt.Sprintf("the bit %d turned", i), turned})
	}
	for n := range b {
		out = append(out, damage{fmt.Sprintf("the first %d bytes", n), b[:n]})
	}
	body := b[:len(b)-4]
	for n := range body {
		out = append(out, damage{fmt.Sprintf("the first %d bytes, closed", n), closed(body[:n])})
	}
	for x := range 256 {
		out = append(out, damage{"a byte behind", append(bytes.Clone(b), byte(x))})
		out = append(out, damage{"a byte behind, closed", closed(append(bytes.Clone(body), byte(x)))})
	}
	return append(out, damage{"twice", slices.Concat(b, b)}, damage{"closed twice", closed(b)})
}

func TestDamagedBlocks(t *testing.T) {
	for _, ss := range samples() {
		b, _ := Encode(ss)
		for _, x := range damaged(b) {
			wantNone(t, x.what, x.b)
		}
	}
	meta, _ := EncodeMeta(someMetas()[1])
	wantNone(t, "a meta", meta)
}

// changed are the bodies that a body becomes by one small change: each byte another one, gone, twice, or with one ahead of it.
func changed(body []byte) [][]byte {
	var out [][]byte
	for i := range body {
		for x := range 256 {
			c := bytes.Clone(body)
			c[i] = byte(x)
			out = append(out, c)
		}
		out = append(out, slices.Delete(bytes.Clone(body), i, i+1))
		for _, x := range []byte{0, 1, 2, 3, 'a', 'b', 0x80, 0x81, 0xff, body[i]} {
			out = append(out, slices.Insert(bytes.Clone(body), i, x))
		}
		if i > 0 {
			c := bytes.Clone(body)
			c[i-1], c[i] = c[i], c[i-1]
			out = append(out, c)
		}
	}
	return out
}

// TestChangedBodies: with a sum that is right, too, a block's bytes are told from others.
func TestChangedBodies(t *testing.T) {
	for _, ss := range samples()[:6] {
		blocks := 0
		for _, body := range changed(bodyOf(ss)) {
			if wantAsModel(t, "a body changed", body) {
				blocks++
			}
		}
		if blocks < len(bodyOf(ss)) {
			t.Errorf("%s: only %d changed bodies are blocks", told(ss), blocks)
		}
	}
}

func TestTwiceChangedBodies(t *testing.T) {
	r := rand.New(rand.NewSource(9))
	for range 40 {
		bodies := changed(bodyOf(samples()[r.Intn(7)]))
		more := changed(bodies[r.Intn(len(bodies))])
		for range 500 {
			wantAsModel(t, "a body changed twice", more[r.Intn(len(more))])
		}
	}
}

// listsOf has each list of at most n of all.
func listsOf[X any](n int, all ...X) [][]X {
	out := [][]X{nil}
	for from := 0; n > 0; n-- {
		to := len(out)
		for _, list := range out[from:to] {
			for _, x := range all {
				out = append(out, append(slices.Clone(list), x))
			}
		}
		from = to
	}
	return out
}

// TestPiecedBodies: every body of few texts, in whatever order, and series of few labels, numbered as they may.
func TestPiecedBodies(t *testing.T) {
	blocks := 0
	sets := listsOf(2, "\x00\x00", "\x00\x01", "\x01\x00", "\x01\x01", "\x00\x02", "\x02\x01")
	for _, texts := range listsOf(3, "a", "b", "", "0") {
		ahead := laid(texts, nil, nil)
		ahead = ahead[:len(ahead)-1]
		for _, a := range sets {
			for _, b := range append(sets, []string{"none"}) {
				body := append(bytes.Clone(ahead), 2)
				body = append(body, byte(len(a)))
				body = append(body, strings.Join(a, "")...)
				chunks := framed(chunkOf(run(1, 5)))
				if slices.Equal(b, []string{"none"}) {
					body[len(ahead)] = 1
				} else {
					body = append(body, byte(len(b)))
					body = append(body, strings.Join(b, "")...)
					chunks = append(chunks, chunks...)
				}
				if wantAsModel(t, "a body of pieces", append(body, chunks...)) {
					blocks++
				}
			}
		}
	}
	if blocks < 20 {
		t.Errorf("only %d bodies of pieces are blocks", blocks)
	}
}

func TestOtherForms(t *testing.T) {
	one := "\x12" + chunkOf(run(1, 5))
	two := "\x12" + chunkOf(run(2, 6))
	head := "TWB\x01\x02\x01a\x01x"
	for _, x := range []struct{ what, body string }{
		{"no bytes", ""},
		{"a mark alone", "TWB\x01"},
		{"a mark cut off", "TWB"},
		{"another mark", "TWB\x02\x02\x01a\x01x\x01\x01\x00\x01" + one},
		{"a meta's mark", "TWM\x01\x02\x01a\x01x\x01\x01\x00\x01" + one},
		{"a small mark", "twb\x01\x02\x01a\x01x\x01\x01\x00\x01" + one},
		{"no mark", "\x02\x01a\x01x\x01\x01\x00\x01" + one},
		{"no series", "TWB\x01\x00\x00"},
		{"texts, and no series", head + "\x00"},
		{"texts alone", head},
		{"a number of texts in two bytes", "TWB\x01\x82\x00\x01a\x01x\x01\x01\x00\x01" + one},
		{"a text's length in two bytes", "TWB\x01\x02\x81\x00a\x01x\x01\x01\x00\x01" + one},
		{"a number of series in two bytes", head + "\x81\x00\x01\x00\x01" + one},
		{"a number of labels in two bytes", head + "\x01\x81\x00\x00\x01" + one},
		{"a Name's number in two bytes", head + "\x01\x01\x80\x00\x01" + one},
		{"a Value's number in two bytes", head + "\x01\x01\x00\x81\x00" + one},
		{"a chunk's length in two bytes", head + "\x01\x01\x00\x01\x92\x00" + one[1:]},
		{"a Name that is not there", head + "\x01\x01\x02\x01" + one},
		{"a Value that is not there", head + "\x01\x01\x00\x02" + one},
		{"a Value far behind", head + "\x01\x01\x00\xff\xff\xff\xff\xff\xff\xff\xff\xff\x01" + one},
		{"a Name of the number 2^32", head + "\x01\x01\x80\x80\x80\x80\x10\x01" + one},
		{"a Name of the number 2^63", head + "\x01\x01\x80\x80\x80\x80\x80\x80\x80\x80\x80\x01\x01" + one},
		{"labels without texts", "TWB\x01\x00\x01\x01\x00\x00" + one},
		{"a text that is not asked for", "TWB\x01\x03\x01a\x01b\x01x\x01\x01\x00\x02" + one},
		{"a last text that is not asked for", "TWB\x01\x03\x01a\x01x\x01y\x01\x01\x00\x01" + one},
		{"a first text that is not asked for", "TWB\x01\x03\x01A\x01a\x01x\x01\x01\x01\x02" + one},
		{"texts without labels", head + "\x01\x00" + one},
		{"a text twice", "TWB\x01\x03\x01a\x01x\x01x\x02\x01\x00\x01\x01\x00\x02" + one + two},
		{"texts that fall", "TWB\x01\x02\x01x\x01a\x01\x01\x01\x00" + one},
		{"an empty Value", "TWB\x01\x02\x00\x01a\x01\x01\x01\x00" + one},
		{"an empty Name", "TWB\x01\x02\x00\x01x\x01\x01\x00\x01" + one},
		{"a Name that may not be", "TWB\x01\x02\x011\x01x\x01\x01\x00\x01" + one},
		{"a Value that is no UTF-8", "TWB\x01\x02\x01a\x01\xff\x01\x01\x00\x01" + one},
		{"a Name twice", head + "\x01\x02\x00\x01\x00\x01" + one},
		{"Names that fall", head + "\x01\x02\x01\x00\x00\x01" + one},
		{"series that fall", head + "\x02\x01\x01\x00\x01\x00\x01" + one + two},
		{"a set twice", head + "\x02\x01\x00\x01\x01\x00\x01" + one + two},
		{"the empty set twice", "TWB\x01\x00\x02\x00\x00" + one + two},
		{"a chunk too few", head + "\x02\x00\x01\x00\x01" + one},
		{"a chunk too many", head + "\x01\x01\x00\x01" + one + two},
		{"no chunk", head + "\x01\x01\x00\x01"},
		{"an empty chunk", head + "\x01\x01\x00\x01\x00"},
		{"no points", head + "\x01\x01\x00\x01\x02\x00\x00"},
		{"a chunk a byte too long", head + "\x01\x01\x00\x01\x13" + one[1:] + "\x00"},
		{"a chunk that is longer than the rest", head + "\x01\x01\x00\x01\x13" + one[1:]},
		{"a chunk that is shorter than the rest", head + "\x01\x01\x00\x01\x11" + one[1:]},
		{"a chunk of 2^63 bytes", head + "\x01\x01\x00\x01\x80\x80\x80\x80\x80\x80\x80\x80\x80\x01" + one[1:]},
		{"a chunk of 2^64 - 1 bytes", head + "\x01\x01\x00\x01\xff\xff\xff\xff\xff\xff\xff\xff\xff\x01" + one[1:]},
		{"a chunk's length that has no end", head + "\x01\x01\x00\x01\xff\xff\xff\xff\xff\xff\xff\xff\xff\xff\x01" + one[1:]},
		{"a chunk that is none", head + "\x01\x01\x00\x01\x12" + one[1:18] + "\x09"},
		{"a T too late", head + "\x01\x01\x00\x01\x12\x00\x08\x00\x00\x08" + strings.Repeat("\x00", 4) + "\x28" + one[11:]},
		{"a text of 2^63 bytes", "TWB\x01\x02\x80\x80\x80\x80\x80\x80\x80\x80\x80\x01a\x01x\x01\x01\x00\x01" + one},
		{"2^64 - 1 texts", "TWB\x01\xff\xff\xff\xff\xff\xff\xff\xff\xff\x01\x01a\x01x\x01\x01\x00\x01" + one},
		{"2^40 texts", "TWB\x01\x80\x80\x80\x80\x80\x20\x01a\x01x\x01\x01\x00\x01" + one},
		{"2^63 series", head + "\x80\x80\x80\x80\x80\x80\x80\x80\x80\x01\x01\x00\x01" + one},
		{"2^40 series", head + "\x80\x80\x80\x80\x80\x20\x01\x00\x01" + one},
		{"2^40 labels", head + "\x01\x80\x80\x80\x80\x80\x20\x00\x01" + one},
		{"2^63 + 1 labels", head + "\x01\x81\x80\x80\x80\x80\x80\x80\x80\x80\x01\x00\x01" + one},
	} {
		wantNone(t, x.what, closed([]byte(x.body)))
		if wantAsModel(t, x.what, []byte(x.body)) {
			t.Errorf("%s: a block to the model", x.what)
		}
	}
	for _, body := range []string{
		head + "\x01\x01\x00\x01" + one,
		head + "\x02\x00\x01\x00\x01" + one + two,
		head + "\x02\x01\x00\x00\x01\x00\x01" + one + two,
		"TWB\x01\x01\x01a\x01\x01\x00\x00" + one,
		"TWB\x01\x00\x01\x00" + two,
	} {
		if !wantAsModel(t, "a neighbour", []byte(body)) {
			t.Errorf("P9.2: %x: no block", body)
		}
	}
}

// TestDecodeNumbers: the edges of how many there may be, where Encode lays nothing that Decode could refuse.
func TestDecodeNumbers(t *testing.T) {
	var ss []api.Series
	for i := range 1100 {
		ss = append(ss, of(nth(i), run(uint64(i), int64(i))))
	}
	for _, n := range []int{1, 1023, 1024, 1025, 1100} {
		if ok := wantAsModel(t, fmt.Sprintf("%d series", n), bodyOf(ss[:n])); ok != (n <= 1024) {
			t.Errorf("P9.2: %d series: %v", n, ok)
		}
	}
	for n := range 2 * api.MaxLabels {
		var ls []api.Label
		for i := range n {
			ls = append(ls, api.Label{Name: fmt.Sprintf("n%02d", i), Value: "v"})
		}
		if ok := wantAsModel(t, fmt.Sprintf("%d labels", n), bodyOf([]api.Series{of(ls, run(1, 1))})); ok != (n <= 16) {
			t.Errorf("P9.2: %d labels: %v", n, ok)
		}
	}
	for _, n := range []int{1, 2, 8190, 8191} {
		wantAsModel(t, fmt.Sprintf("%d points", n), bodyOf([]api.Series{of(nil, steps(n))}))
	}
	for _, ls := range wrongSets() {
		wantNone(t, fmt.Sprintf("%.200q", ls), closed(bodyOf([]api.Series{of(ls, run(1, 1))})))
	}
}

// TestMostTexts: no text stands twice in as many series as there may be, of as many labels.
func TestMostTexts(t *testing.T) {
	var ss []api.Series
	for i := range api.MaxSeries {
		var ls []api.Label
		for k := range api.MaxLabels {
			ls = append(ls, api.Label{Name: fmt.Sprintf("n%04d_%02d", i, k), Value: fmt.Sprintf("v%04d_%02d", i, k)})
		}
		ss = append(ss, of(ls, run(uint64(i), int64(i))))
	}
	body := bodyOf(ss)
	if !bytes.HasPrefix(body, []byte("TWB\x01\x80\x80\x02")) {
		t.Fatalf("not 32768 texts: %x", body[:8])
	}
	if !wantAsModel(t, "32768 texts", body) {
		t.Error("P9.2: 32768 texts: no block")
	}
	texts := append(textList(ss), "w")
	wantNone(t, "32769 texts", closed(laid(texts, ss, chunkList(ss))))
}
