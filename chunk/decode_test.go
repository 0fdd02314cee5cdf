package chunk

import (
	"bytes"
	"fmt"
	"slices"
	"strings"
	"testing"

	"tidewrack/api"
)

// P5.2

// start is the bits of two points, (0, 0) and (1, 7 << 30), that leave a window of three bits, in a list of n.
func start(n int) string {
	return digits(uint64(n), 13) + textOf(windowed())[13:]
}

func windowed() []api.Point {
	return valued(0, 7<<30)
}

func TestDecodeRefusesOtherForms(t *testing.T) {
	nought := strings.Repeat("0", 128)
	one, two := digits(1, 13)+nought, digits(2, 13)+nought
	window := "11" + digits(31, 5) + digits(2, 6) + "111"
	for _, x := range []struct {
		what string
		text string
	}{
		{"no bits", ""},
		{"too few bits for the number", "00000000"},
		{"a number of points, and none of them", digits(1, 13)},
		{"the most points, and none of them", digits(8191, 13)},
		{"a time alone", digits(1, 13) + nought[:64]},
		{"a point less its last byte", one[:13+120]},
		{"no points, and a byte behind", digits(0, 13) + "00000000000"},
		{"no points, and a bit behind", digits(0, 13) + "1"},
		{"no points, and the last bit behind", digits(0, 13) + "001"},
		{"a point, and a bit behind", one + "1"},
		{"a point, and the last bit behind", one + "001"},
		{"a point, and a byte behind", one + "00000000000"},
		{"one point, told as two", two},
		{"a time too late", digits(1, 13) + digits(api.MaxTime+1, 64) + nought[:64]},
		{"a time too early", digits(1, 13) + digits(^uint64(api.MaxTime), 64) + nought[:64]},
		{"the earliest time of all", digits(1, 13) + digits(1<<63, 64) + nought[:64]},
		{"one time twice", two + "0" + "0"},
		{"a time that falls", two + "10" + digits(^uint64(0), 7) + "0"},
		{"a time that falls, told long", two + "1111" + digits(^uint64(4096), 64) + "0"},
		{"a step past the latest time", two + "1111" + digits(api.MaxTime+1, 64) + "0"},
		{"a step round all times, to the earliest", digits(2, 13) + digits(api.MaxTime, 64) + nought[:64] + "1111" + digits(^uint64(2*api.MaxTime)+1, 64) + "0"},
		{"a third time that falls", start(3) + "10" + digits(^uint64(0)-1, 7) + "0"},
		{"a second time twice", start(3) + "10" + digits(^uint64(0), 7) + "0"},
		{"a bend of 0 in 7 bits", start(3) + "10" + digits(0, 7) + "0"},
		{"a bend of 0 in 9 bits", start(3) + "110" + digits(0, 9) + "0"},
		{"a bend of 0 in 12 bits", start(3) + "1110" + digits(0, 12) + "0"},
		{"a bend of 0 in 64 bits", start(3) + "1111" + digits(0, 64) + "0"},
		{"63 in 9 bits", two + "110" + digits(63, 9) + "0"},
		{"63 in 12 bits", two + "1110" + digits(63, 12) + "0"},
		{"63 in 64 bits", two + "1111" + digits(63, 64) + "0"},
		{"255 in 12 bits", two + "1110" + digits(255, 12) + "0"},
		{"255 in 64 bits", two + "1111" + digits(255, 64) + "0"},
		{"2047 in 64 bits", two + "1111" + digits(2047, 64) + "0"},
		{"a bend cut off", two + "1111" + digits(1<<30, 64)[:60]},
		{"no change behind a step", start(4) + "0" + "0" + "1110" + digits(2047, 12)},
		{"a change in a window that none left", two + "10" + digits(1, 7) + "10"},
		{"a change of 0 in the window", start(3) + "0" + "10" + "000"},
		{"a change in the window cut off", start(3) + "1110" + digits(2047, 12) + "10"},
		{"a window anew, of the same bits", start(3) + "0" + window},
		{"a window anew, of fewer bits", start(3) + "0" + "11" + digits(31, 5) + digits(1, 6) + "11"},
		{"a window anew, of fewer bits behind", start(3) + "0" + "11" + digits(31, 5) + digits(0, 6) + "1"},
		{"a first window with a nought behind", two + "10" + digits(1, 7) + "11" + digits(30, 5) + digits(1, 6) + "10"},
		{"a first window with a nought ahead", two + "10" + digits(1, 7) + "11" + digits(30, 5) + digits(1, 6) + "01"},
		{"a first window of a nought", two + "10" + digits(1, 7) + "11" + digits(31, 5) + digits(0, 6) + "0"},
		{"a first window of noughts", two + "10" + digits(1, 7) + "11" + digits(31, 5) + digits(32, 6) + strings.Repeat("0", 33)},
		{"a window of a bit too many", two + "10" + digits(1, 7) + "11" + digits(1, 5) + digits(63, 6) + strings.Repeat("1", 64)},
		{"a window of a bit too many behind 31", two + "10" + digits(1, 7) + "11" + digits(31, 5) + digits(33, 6) + strings.Repeat("1", 34)},
		{"a window of the most bits behind 31", two + "10" + digits(1, 7) + "11" + digits(31, 5) + digits(63, 6) + strings.Repeat("1", 64)},
	} {
		wantNoPoints(t, x.what, pack(x.text))
	}
}

func TestDecodeTakesTheirNeighbours(t *testing.T) {
	two := digits(2, 13) + strings.Repeat("0", 128)
	for _, x := range []struct {
		text string
		want []api.Point
	}{
		{two + "10" + digits(63, 7) + "0", stepped(63)},
		{two + "110" + digits(64, 9) + "0", stepped(64)},
		{two + "1110" + digits(256, 12) + "0", stepped(256)},
		{two + "1111" + digits(2048, 64) + "0", stepped(2048)},
		{two + "1111" + digits(api.MaxTime, 64) + "0", stepped(api.MaxTime)},
		{start(3) + "0" + "0", valued(0, 7<<30, 7<<30)},
		{start(3) + "0" + "10" + "101", valued(0, 7<<30, 2<<30)},
		{start(3) + "0" + "11" + digits(31, 5) + digits(3, 6) + "1111", valued(0, 7<<30, 7<<30^15<<29)},
		{two + "10" + digits(1, 7) + "11" + digits(31, 5) + digits(32, 6) + strings.Repeat("0", 32) + "1", valued(0, 1)},
		{two + "10" + digits(1, 7) + "11" + digits(0, 5) + digits(63, 6) + "1" + strings.Repeat("0", 62) + "1", valued(0, 1<<63+1)},
	} {
		wantPoints(t, "a form of its own", pack(x.text), x.want)
	}
}

// wantJust asks that, of all strings of bytes that go on from a beginning by at most 19 bits, Decode takes just those of the points that are wanted. Lists that go on by more bits are left out.
func wantJust(t *testing.T, begin string, want [][]api.Point) {
	t.Helper()
	wanted := map[string]bool{}
	for _, ps := range want {
		s := textOf(ps)
		if !strings.HasPrefix(s, begin) {
			t.Fatalf("%v do not go on from %s", ps, begin)
		}
		wanted[s+strings.Repeat("0", (8-len(s)%8)%8)] = true
	}
	for more := range 20 {
		if (len(begin)+more)%8 != 0 {
			continue
		}
		for v := range 1 << more {
			s := begin + digits(uint64(v), more)
			if _, e := Decode(pack(s)); (e == api.OK) != wanted[s] {
				t.Fatalf("P5.2: Decode(%x): %d", pack(s), e)
			}
		}
	}
}

func TestDecodeOfAllShortSteps(t *testing.T) {
	for n := 1; n <= 5; n++ {
		var want [][]api.Point
		for d := int64(1); d <= 2050; d++ {
			ds := slices.Repeat([]int64{d}, n-1)
			want = append(want, stepped(ds...)) // two bends that are not 0 take 20 bits
		}
		wantJust(t, digits(uint64(n), 13)+strings.Repeat("0", 128), want)
	}
}

func TestDecodeOfAllShortChanges(t *testing.T) {
	var want [][]api.Point
	third := func(z int64, x uint64) {
		want = append(want, append(windowed(), at(2+z, 7<<30^x)))
	}
	for x := range uint64(8) {
		for z := range int64(2050) {
			third(z, x<<30)
		}
	}
	for m := uint64(1); m < 32; m++ { // a change in a window of its own goes on by 14 bits and its width
		for low := range 64 {
			third(0, m<<low)
		}
	}
	wantJust(t, start(3), want)
}

func TestDecodeOfTurnedBits(t *testing.T) {
	c := chance(4)
	for n := range 30 {
		b, _ := Encode(mixed(&c, n))
		for i := range len(b) * 8 {
			turned := bytes.Clone(b)
			turned[i/8] ^= 128 >> (i % 8)
			wantOneForm(t, fmt.Sprint("bit ", i, " turned"), turned)
		}
		for k := range b {
			wantNoPoints(t, fmt.Sprint("the first ", k, " bytes"), b[:k])
		}
		for _, x := range []byte{0, 1, 128, 255} {
			wantNoPoints(t, "a byte behind", append(bytes.Clone(b), x))
		}
	}
}

func TestDecodeByChance(t *testing.T) {
	c := chance(6)
	taken := 0
	for range 300000 {
		s := start(3 + c.below(3))
		for range c.below(6) {
			s += digits(c.next(), 1+c.below(20))
		}
		if wantOneForm(t, "by chance", pack(s)) {
			taken++
		}
	}
	if taken == 0 {
		t.Error("no string by chance is taken")
	}
}

func TestDecodeOfLongRunsOfOneByte(t *testing.T) {
	for _, n := range []int{0, 1, 2, 17, 18, 19, 1000, 1 << 20} {
		for x := range 256 {
			if n < 1<<20 || x%51 == 0 {
				wantOneForm(t, "one byte again and again", bytes.Repeat([]byte{byte(x)}, n))
			}
		}
	}
}

// R3

func TestDecodeLeavesItsBytes(t *testing.T) {
	c := chance(8)
	ps := mixed(&c, 50)
	whole, _ := Encode(ps)
	room := append(bytes.Clone(whole), 0xff, 0, 0xff)
	kept := bytes.Clone(room)
	for k := range whole {
		wantNoPoints(t, "bytes that go on behind their length", room[:k])
	}
	one, _ := Decode(room[:len(whole)])
	two, _ := Decode(room[:len(whole)])
	one = append(one, api.Point{})
	for i := range one {
		one[i] = at(-1, 1)
	}
	if !slices.Equal(two, ps) || !bytes.Equal(room, kept) {
		t.Error("R3: an answer shares memory")
	}
	for i := range room {
		room[i] = 0x55
	}
	if !slices.Equal(two, ps) {
		t.Error("R3: the bytes are kept")
	}
}
