package bits

import (
	"bytes"
	"math"
	"strconv"
	"strings"
	"testing"
)

// text writes the first n bits of b as noughts and ones, so that the tests hold the package against texts and not against its own shifts.
func text(b []byte, n int) string {
	var s strings.Builder
	for _, x := range b {
		d := strconv.FormatUint(uint64(x), 2)
		s.WriteString(strings.Repeat("0", 8-len(d)) + d)
	}
	return s.String()[:n]
}

// pack is the string of bits that a text of noughts and ones says.
func pack(t *testing.T, s string) []byte {
	t.Helper()
	var b []byte
	for ; len(s) > 0; s = s[min(8, len(s)):] {
		d := (s + "0000000")[:8]
		x, err := strconv.ParseUint(d, 2, 8)
		if err != nil {
			t.Fatal(err)
		}
		b = append(b, byte(x))
	}
	return b
}

// digits is v in 64 noughts and ones.
func digits(v uint64) string {
	d := strconv.FormatUint(v, 2)
	return strings.Repeat("0", 64-len(d)) + d
}

// number is the number that a text of noughts and ones says.
func number(t *testing.T, s string) uint64 {
	t.Helper()
	v, err := strconv.ParseUint("0"+s, 2, 64)
	if err != nil {
		t.Fatal(err)
	}
	return v
}

// sample is a text of n noughts and ones without a short period.
func sample(n int) string {
	s := make([]byte, n)
	x := uint32(12345)
	for i := range s {
		x = x*1664525 + 1013904223
		s[i] = '0' + byte(x>>31)
	}
	return string(s)
}

func values() []uint64 {
	return []uint64{0, 1, 5, 0x80, 1 << 63, 1<<63 - 1, math.MaxUint64, 0x0123456789abcdef, 0xfedcba9876543210, 0xaaaaaaaaaaaaaaaa}
}

// P1.1

func TestWholeCases(t *testing.T) {
	for _, x := range []struct {
		b    []byte
		n    int
		want bool
	}{
		{nil, 0, true},
		{[]byte{}, 0, true},
		{[]byte{0xa0}, 3, true},
		{[]byte{0xa1}, 3, false},
		{[]byte{0x90}, 3, false},
		{[]byte{0xff}, 8, true},
		{[]byte{0xff}, 7, false},
		{[]byte{0xfe}, 7, true},
		{[]byte{0x80}, 1, true},
		{[]byte{0x40}, 1, false},
		{[]byte{0x00}, 0, false},
		{nil, 1, false},
		{[]byte{0xff}, 9, false},
		{[]byte{0xff, 0x80}, 9, true},
		{[]byte{0xff, 0x40}, 9, false},
		{[]byte{0xff, 0x00}, 8, false},
		{[]byte{0xff, 0x00}, 17, false},
		{nil, -1, false},
		{nil, -7, false},
		{nil, -8, false},
		{[]byte{0x80}, -1, false},
		{nil, math.MinInt, false},
		{[]byte{0x80}, math.MinInt, false},
		{nil, math.MaxInt, false},
		{[]byte{0x80}, math.MaxInt, false},
		{nil, math.MaxInt - 6, false},
	} {
		if got := Whole(x.b, x.n); got != x.want {
			t.Errorf("P1.1: Whole(%x, %d): %v", x.b, x.n, got)
		}
	}
}

func TestWholeOfAllShortStrings(t *testing.T) {
	for x := range 256 * 256 {
		b := []byte{byte(x >> 8), byte(x)}
		for n := -1; n <= 25; n++ {
			want := n >= 9 && n <= 16 && !strings.Contains(text(b, 16)[n:], "1")
			if got := Whole(b, n); got != want {
				t.Fatalf("P1.1: Whole(%x, %d): %v", b, n, got)
			}
		}
	}
}

// P1.2

func TestAppendCases(t *testing.T) {
	for _, x := range []struct {
		b    []byte
		n    int
		v    uint64
		w    int
		want []byte
		m    int
		ok   bool
	}{
		{nil, 0, 5, 3, []byte{0xa0}, 3, true},
		{[]byte{0xa0}, 3, 1, 6, []byte{0xa0, 0x80}, 9, true},
		{nil, 0, math.MaxUint64, 0, nil, 0, true},
		{[]byte{0xa0}, 3, math.MaxUint64, 0, []byte{0xa0}, 3, true},
		{[]byte{0x80}, 8, math.MaxUint64, 0, []byte{0x80}, 8, true},
		{nil, 0, 0x0123456789abcdef, 64, []byte{0x01, 0x23, 0x45, 0x67, 0x89, 0xab, 0xcd, 0xef}, 64, true},
		{[]byte{0x80}, 1, math.MaxUint64, 64, []byte{255, 255, 255, 255, 255, 255, 255, 255, 0x80}, 65, true},
		{[]byte{0x80}, 1, 0xff00, 8, []byte{0x80, 0x00}, 9, true},
		{[]byte{0xff}, 8, 1, 8, []byte{0xff, 0x01}, 16, true},
		{[]byte{0xa1}, 3, 1, 1, nil, 0, false},
		{[]byte{0xa1}, 3, 0, 0, nil, 0, false},
		{[]byte{0x00}, 0, 1, 1, nil, 0, false},
		{nil, 1, 1, 1, nil, 0, false},
		{[]byte{0xa0}, 9, 1, 1, nil, 0, false},
		{nil, -1, 1, 1, nil, 0, false},
		{nil, math.MinInt, 1, 1, nil, 0, false},
		{nil, math.MaxInt, 1, 64, nil, 0, false},
		{nil, 0, 1, 65, nil, 0, false},
		{nil, 0, 1, -1, nil, 0, false},
		{[]byte{0xa0}, 3, 1, -3, nil, 0, false},
		{nil, 0, 1, math.MaxInt, nil, 0, false},
		{nil, 0, 1, math.MinInt, nil, 0, false},
	} {
		b, m, ok := Append(x.b, x.n, x.v, x.w)
		if !bytes.Equal(b, x.want) || m != x.m || ok != x.ok {
			t.Errorf("P1.2: Append(%x, %d, %x, %d): %x, %d, %v", x.b, x.n, x.v, x.w, b, m, ok)
		}
	}
}

func TestAppendAllWidths(t *testing.T) {
	for n := range 19 {
		head := sample(n)
		for w := range 65 {
			for _, v := range values() {
				want := head + digits(v)[64-w:]
				b, m, ok := Append(pack(t, head), n, v, w)
				if !ok || m != len(want) || !bytes.Equal(b, pack(t, want)) {
					t.Fatalf("P1.2: Append(%s, %d, %x, %d): %x, %d, %v", head, n, v, w, b, m, ok)
				}
			}
		}
	}
}

// P1.3

func TestReadCases(t *testing.T) {
	two := []byte{0xa0, 0x80}
	eight := []byte{0x01, 0x23, 0x45, 0x67, 0x89, 0xab, 0xcd, 0xef}
	for _, x := range []struct {
		b    []byte
		n    int
		at   int
		w    int
		want uint64
		ok   bool
	}{
		{two, 9, 2, 7, 65, true},
		{two, 9, 0, 9, 0x141, true},
		{two, 9, 8, 1, 1, true},
		{two, 10, 8, 2, 2, true},
		{eight, 64, 0, 64, 0x0123456789abcdef, true},
		{eight, 64, 4, 8, 0x12, true},
		{nil, 0, 0, 0, 0, true},
		{two, 9, 0, 0, 0, true},
		{two, 9, 9, 0, 0, true},
		{two, 9, 10, 0, 0, false},
		{nil, 0, 1, 0, 0, false},
		{nil, 0, 0, 1, 0, false},
		{[]byte{0xa0}, 3, 1, 3, 0, false},
		{[]byte{0xa0}, 3, 0, 64, 0, false},
		{two, 9, 9, 1, 0, false},
		{two, 9, -1, 1, 0, false},
		{two, 9, -1, 0, 0, false},
		{two, 9, math.MinInt, 1, 0, false},
		{two, 9, math.MaxInt, 1, 0, false},
		{two, 9, math.MaxInt, 64, 0, false},
		{two, 9, 0, -1, 0, false},
		{two, 9, 9, -1, 0, false},
		{two, 9, 0, math.MinInt, 0, false},
		{two, 9, 0, math.MaxInt, 0, false},
		{bytes.Repeat(eight, 2), 128, 0, 65, 0, false},
		{two, 8, 0, 1, 0, false},
		{two, 17, 0, 1, 0, false},
		{two, -1, 0, 0, 0, false},
		{nil, -1, 0, 0, 0, false},
		{nil, math.MinInt, 0, 0, 0, false},
		{nil, math.MaxInt, 0, 1, 0, false},
		{[]byte{0xa1}, 3, 0, 1, 0, false},
		{[]byte{0xa1}, 3, 0, 0, 0, false},
	} {
		if v, ok := Read(x.b, x.n, x.at, x.w); v != x.want || ok != x.ok {
			t.Errorf("P1.3: Read(%x, %d, %d, %d): %x, %v", x.b, x.n, x.at, x.w, v, ok)
		}
	}
}

func TestReadAllPlaces(t *testing.T) {
	for n := range 81 {
		s := sample(n)
		b := pack(t, s)
		for at := -1; at <= n+1; at++ {
			for w := -1; w <= 65; w++ {
				v, ok := Read(b, n, at, w)
				can := at >= 0 && w >= 0 && w <= 64 && at+w <= n
				want := uint64(0)
				if can {
					want = number(t, s[at:at+w])
				}
				if v != want || ok != can {
					t.Fatalf("P1.3: Read(%s, %d, %d, %d): %x, %v", s, n, at, w, v, ok)
				}
			}
		}
	}
}

// P1.4

func TestReadIsWhatWasAppended(t *testing.T) {
	for n := range 19 {
		head := pack(t, sample(n))
		for w := range 65 {
			for _, v := range values() {
				b, m, _ := Append(head, n, v, w)
				want := number(t, digits(v)[64-w:])
				if got, ok := Read(b, m, n, w); got != want || !ok {
					t.Fatalf("P1.4: Read of Append(%x, %d, %x, %d): %x, %v", head, n, v, w, got, ok)
				}
				if !Whole(b, m) {
					t.Fatalf("P1.4: Append(%x, %d, %x, %d) is no string of bits: %x", head, n, v, w, b)
				}
			}
		}
	}
}

func TestAppendLeavesTheBitsAhead(t *testing.T) {
	for n := range 40 {
		head := pack(t, sample(n))
		for _, w := range []int{0, 1, 7, 8, 9, 63, 64} {
			for _, v := range values() {
				b, _, _ := Append(head, n, v, w)
				if text(b, n) != sample(n) {
					t.Fatalf("P1.4: Append(%x, %d, %x, %d) changed the bits ahead: %x", head, n, v, w, b)
				}
			}
		}
	}
}

func TestTwoPartsAreTheWhole(t *testing.T) {
	for n := range 10 {
		head := pack(t, sample(n))
		for w := range 65 {
			for high := range w + 1 {
				for _, v := range values() {
					once, m, _ := Append(head, n, v, w)
					part, k, _ := Append(head, n, v>>(w-high), high)
					both, l, ok := Append(part, k, v, w-high)
					if !ok || l != m || !bytes.Equal(once, both) {
						t.Fatalf("P1.4: %x in %d and %d bits behind %x: %x, at once %x", v, high, w-high, head, both, once)
					}
				}
			}
		}
	}
}

func TestManyAppended(t *testing.T) {
	var b []byte
	n := 0
	var s strings.Builder
	for i := range 2000 {
		v, w := values()[i%10], i%65
		b, n, _ = Append(b, n, v, w)
		s.WriteString(digits(v)[64-w:])
	}
	if n != s.Len() || !bytes.Equal(b, pack(t, s.String())) {
		t.Fatalf("P1.4: 2000 numbers appended one by one are not their bits, %d of %d", n, s.Len())
	}
	at := 0
	for i := range 2000 {
		v, w := values()[i%10], i%65
		got, ok := Read(b, n, at, w)
		if !ok || got != number(t, digits(v)[64-w:]) {
			t.Fatalf("P1.4: number %d at %d: %x, %v", i, at, got, ok)
		}
		at += w
	}
}

// R3

// roomy is b with spare room behind it that is full of bits.
func roomy(b []byte) []byte {
	full := append(bytes.Clone(b), bytes.Repeat([]byte{0xff}, 32)...)
	return full[:len(b)]
}

// asWritten tells whether b is want and the room behind it is as roomy left it.
func asWritten(b, want []byte) bool {
	full := b[:len(b)+32]
	return bytes.Equal(b, want) && bytes.Equal(full[len(b):], bytes.Repeat([]byte{0xff}, 32))
}

func TestWhatIsHandedInStays(t *testing.T) {
	for n := range 40 {
		head := pack(t, sample(n))
		in := roomy(head)
		for w := -1; w <= 65; w++ {
			for _, v := range values() {
				Append(in, n, v, w)
				Append(in, n+1, v, w)
			}
			Read(in, n, 0, w)
			Read(in, n, n-w, w)
		}
		Whole(in, n)
		if !asWritten(in, head) {
			t.Fatalf("R3: what was handed in was changed: %x, it was %x", in[:len(head)+32], head)
		}
	}
}

func TestSpareRoomIsNotRead(t *testing.T) {
	for n := range 40 {
		head := pack(t, sample(n))
		in := roomy(head)
		if Whole(in, n) != Whole(head, n) || Whole(in, n+8) {
			t.Fatalf("R3: Whole of %x, %d hangs on what lies behind", head, n)
		}
		for w := range 65 {
			a, _, _ := Append(in, n, 0, w)
			b, _, _ := Append(head, n, 0, w)
			if !bytes.Equal(a, b) {
				t.Fatalf("R3: Append(%x, %d, 0, %d) hangs on what lies behind: %x", head, n, w, a)
			}
			if _, ok := Read(in, n, n, w); ok != (w == 0) {
				t.Fatalf("R3: Read(%x, %d, %d, %d) reads what lies behind", head, n, n, w)
			}
		}
	}
}

func TestSpareRoomIsNotHandedOut(t *testing.T) {
	for n := range 40 {
		in := roomy(pack(t, sample(n)))
		for _, w := range []int{0, 1, 8, 64} {
			out, _, _ := Append(in, n, 0, w)
			if behind := out[len(out):cap(out)]; bytes.Contains(behind, []byte{0xff}) {
				t.Fatalf("R3: Append(%x, %d, 0, %d) hands out what lay behind: %x", in, n, w, behind)
			}
		}
	}
}

func TestWhatIsHandedOutIsNew(t *testing.T) {
	for n := range 40 {
		head := pack(t, sample(n))
		in := roomy(head)
		for _, w := range []int{0, 1, 8, 64} {
			a, m, _ := Append(in, n, 5, w)
			b, _, _ := Append(in, n, 5, w)
			want := bytes.Clone(b)
			a = a[:cap(a)]
			for i := range a {
				a[i] ^= 0x55
			}
			if !asWritten(in, head) {
				t.Fatalf("R3: what Append(%x, %d, 5, %d) handed out is what was handed in", head, n, w)
			}
			if !bytes.Equal(b, want) {
				t.Fatalf("R3: two answers of Append(%x, %d, 5, %d) share memory", head, n, w)
			}
			long, _, _ := Append(b, m, 0, 8)
			next, _, _ := Append(b, m, math.MaxUint64, 8)
			if bytes.Equal(long, next) || !bytes.Equal(b, want) {
				t.Fatalf("R3: strings that go on from %x share memory", want)
			}
		}
	}
}
