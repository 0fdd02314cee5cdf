package codec

import (
	"bytes"
	"hash/crc32"
	"math"
	"math/big"
	"slices"
	"strings"
	"testing"

	"tidewrack/api"
)

// asNumber is a number's bytes by division: the tests hold the package against great integers and not against its own shifts.
func asNumber(v *big.Int) []byte {
	v = new(big.Int).Set(v)
	var out []byte
	for {
		low := new(big.Int)
		v.DivMod(v, big.NewInt(128), low)
		if v.Sign() == 0 {
			return append(out, byte(low.Int64()))
		}
		out = append(out, byte(low.Int64())+128)
	}
}

func asUint(v uint64) []byte {
	return asNumber(new(big.Int).SetUint64(v))
}

// asInt is a signed number's bytes: 2v, or -2v - 1.
func asInt(v int64) []byte {
	x := new(big.Int).Mul(big.NewInt(v), big.NewInt(2))
	if x.Sign() < 0 {
		x.Neg(x).Sub(x, big.NewInt(1))
	}
	return asNumber(x)
}

// answer is what a reader of a number has to tell.
type answer struct {
	v  uint64
	to int
	e  api.Errno
}

// lookUp finds the number at a place by trying: the shortest piece that is all of a number's bytes, and the first byte at which no number goes on.
func lookUp(b []byte, at int) answer {
	if at < 0 || at > len(b) {
		return answer{e: api.ErrCodecEnd}
	}
	v, step := new(big.Int), big.NewInt(1)
	for i := at; i < len(b); i++ {
		v.Add(v, new(big.Int).Mul(step, big.NewInt(int64(b[i]%128))))
		step.Mul(step, big.NewInt(128))
		ends := b[i] < 128
		if !v.IsUint64() || i-at == 9 && !ends || ends && !bytes.Equal(asNumber(v), b[at:i+1]) {
			return answer{e: api.ErrCodecForm}
		}
		if ends {
			return answer{v.Uint64(), i + 1, api.OK}
		}
	}
	return answer{e: api.ErrCodecEnd}
}

// uints has each power of 2, its neighbours, and what lies between.
func uints() []uint64 {
	out := []uint64{0, 300, math.MaxUint64}
	for k := range 64 {
		p := uint64(1) << k
		out = append(out, p-1, p, p+1, p*3, ^p, p*0x9e3779b97f4a7c15)
	}
	return out
}

// ints is uints on both sides of 0.
func ints() []int64 {
	out := []int64{math.MinInt64, math.MinInt64 + 1, math.MaxInt64}
	for _, v := range uints() {
		out = append(out, int64(v), -int64(v))
	}
	return out
}

// noise is n bytes without a short period.
func noise(n int) []byte {
	b := make([]byte, n)
	x := uint32(n + 1)
	for i := range b {
		x = x*1664525 + 1013904223
		b[i] = byte(x >> 24)
	}
	return b
}

// between is b with bytes ahead that end no number, and some behind.
func between(b []byte) ([]byte, int) {
	ahead := []byte{0x81, 0xff, 0x80}
	return slices.Concat(ahead, b, []byte{0x80, 0xff, 1}), len(ahead)
}

func TestPutNumbers(t *testing.T) {
	for _, ahead := range [][]byte{nil, {}, {0x80}, {7, 0, 255}} {
		for _, v := range uints() {
			if got, want := PutUint(ahead, v), slices.Concat(ahead, asUint(v)); !bytes.Equal(got, want) {
				t.Errorf("P2.1: PutUint(%x, %d): %x, not %x", ahead, v, got, want)
			}
		}
		for _, v := range ints() {
			if got, want := PutInt(ahead, v), slices.Concat(ahead, asInt(v)); !bytes.Equal(got, want) {
				t.Errorf("P2.1: PutInt(%x, %d): %x, not %x", ahead, v, got, want)
			}
		}
	}
}

func TestExamples(t *testing.T) {
	if got := PutUint(nil, 300); !bytes.Equal(got, []byte{0xac, 2}) {
		t.Errorf("P2.1: PutUint(none, 300): %x", got)
	}
	if got := PutInt(nil, -1); !bytes.Equal(got, []byte{1}) {
		t.Errorf("P2.1: PutInt(none, -1): %x", got)
	}
	if got := Sum([]byte("123456789")); got != 0xcbf43926 {
		t.Errorf("P2.3: Sum: %x", got)
	}
	for _, x := range []struct {
		b []byte
		e api.Errno
	}{{[]byte{0x80}, api.ErrCodecEnd}, {[]byte{0x80, 0}, api.ErrCodecForm}} {
		if v, to, e := Uint(x.b, 0); v != 0 || to != 0 || e != x.e {
			t.Errorf("P2.2: Uint(%x, 0): %d, %d, %d", x.b, v, to, e)
		}
	}
	if s, to, e := Text([]byte{2, 'a'}, 0); s != "" || to != 0 || e != api.ErrCodecEnd {
		t.Errorf("P2.2: Text(02 61, 0): %q, %d, %d", s, to, e)
	}
}

func TestPutTexts(t *testing.T) {
	for _, n := range []int{0, 1, 2, 127, 128, 129, 16383, 16384, 100000} {
		s := string(noise(n))
		for _, ahead := range [][]byte{nil, {0x80, 3}} {
			if got, want := PutText(ahead, s), slices.Concat(ahead, asUint(uint64(n)), []byte(s)); !bytes.Equal(got, want) {
				t.Errorf("P2.1: PutText(%x, %d bytes): %d bytes", ahead, n, len(got))
			}
		}
	}
	if got := PutText(nil, "a\x00\xff"); !bytes.Equal(got, []byte{3, 'a', 0, 255}) {
		t.Errorf("P2.1: PutText: %x", got)
	}
}

// everyString calls f with all strings of up to n of the bytes at which a number's form turns.
func everyString(n int, f func([]byte)) {
	var grow func(b []byte)
	grow = func(b []byte) {
		f(b)
		if len(b) == n {
			return
		}
		for _, x := range []byte{0, 1, 2, 0x7f, 0x80, 0x81, 0xff} {
			grow(append(b, x))
		}
	}
	grow(nil)
}

func checkUint(t *testing.T, b []byte, at int) {
	t.Helper()
	want := lookUp(b, at)
	v, to, e := Uint(b, at)
	if (answer{v, to, e}) != want {
		t.Errorf("P2.2: Uint(%x, %d): %d, %d, %d, not %v", b, at, v, to, e, want)
	}
	if e == api.OK && !bytes.Equal(PutUint(b[:at], v), b[:to]) {
		t.Errorf("P2.6: Uint(%x, %d): written anew: %x", b, at, PutUint(nil, v))
	}
}

func checkInt(t *testing.T, b []byte, at int) {
	t.Helper()
	want := lookUp(b, at)
	v, to, e := Int(b, at)
	if to != want.to || e != want.e || e != api.OK && v != 0 {
		t.Errorf("P2.2: Int(%x, %d): %d, %d, %d, not %v", b, at, v, to, e, want)
	}
	if e == api.OK && (!bytes.Equal(asInt(v), b[at:to]) || !bytes.Equal(PutInt(b[:at], v), b[:to])) {
		t.Errorf("P2.6: Int(%x, %d): %d, written anew: %x", b, at, v, PutInt(nil, v))
	}
}

func checkText(t *testing.T, b []byte, at int) {
	t.Helper()
	size := lookUp(b, at)
	if size.e == api.OK && size.v > uint64(len(b)-size.to) {
		size = answer{e: api.ErrCodecEnd}
	}
	want, end := "", 0
	if size.e == api.OK {
		end = size.to + int(size.v)
		want = string(b[size.to:end])
	}
	s, to, e := Text(b, at)
	if s != want || to != end || e != size.e {
		t.Errorf("P2.2: Text(%x, %d): %q, %d, %d, not %q, %d, %d", b, at, s, to, e, want, end, size.e)
	}
	if e == api.OK && !bytes.Equal(PutText(b[:at], s), b[:to]) {
		t.Errorf("P2.6: Text(%x, %d): written anew: %x", b, at, PutText(nil, s))
	}
}

func TestReadEveryShortString(t *testing.T) {
	everyString(5, func(b []byte) {
		for at := -1; at <= len(b)+1; at++ {
			checkUint(t, b, at)
			checkInt(t, b, at)
			checkText(t, b, at)
		}
	})
}

func TestReadLongNumbers(t *testing.T) {
	for _, low := range []byte{0x80, 0x81, 0xff} {
		for n := 6; n <= 12; n++ {
			everyString(3, func(tail []byte) {
				b := append(bytes.Repeat([]byte{low}, n), tail...)
				checkUint(t, b, 0)
				checkInt(t, b, 0)
				checkText(t, b, 0)
				checkUint(t, b, 1)
			})
		}
	}
	for x := range 256 {
		checkUint(t, append(bytes.Repeat([]byte{0x80}, 9), byte(x)), 0)
		checkInt(t, append(bytes.Repeat([]byte{0xff}, 9), byte(x), 0), 0)
	}
}

func TestReadAtWrongPlaces(t *testing.T) {
	for _, b := range [][]byte{nil, {}, {1}, {1, 2, 3}} {
		for _, at := range []int{math.MinInt, math.MinInt + 1, -2, -1, len(b), len(b) + 1, math.MaxInt - 1, math.MaxInt} {
			if v, to, e := Uint(b, at); v != 0 || to != 0 || e != api.ErrCodecEnd {
				t.Errorf("P2.2: Uint(%x, %d): %d, %d, %d", b, at, v, to, e)
			}
			if v, to, e := Int(b, at); v != 0 || to != 0 || e != api.ErrCodecEnd {
				t.Errorf("P2.2: Int(%x, %d): %d, %d, %d", b, at, v, to, e)
			}
			if s, to, e := Text(b, at); s != "" || to != 0 || e != api.ErrCodecEnd {
				t.Errorf("P2.2: Text(%x, %d): %q, %d, %d", b, at, s, to, e)
			}
			if rec, to, e := Unframe(b, at); len(rec) != 0 || to != 0 || e != api.ErrCodecEnd {
				t.Errorf("P2.5: Unframe(%x, %d): %x, %d, %d", b, at, rec, to, e)
			}
		}
	}
}

func TestReadTextsOfWrongLengths(t *testing.T) {
	for _, size := range []uint64{4, 5, 1 << 31, 1 << 32, 1<<63 - 1, 1 << 63, 1<<64 - 4, math.MaxUint64} {
		for k := range 4 {
			b := append(PutUint(nil, size), noise(k)...)
			if s, to, e := Text(b, 0); s != "" || to != 0 || e != api.ErrCodecEnd {
				t.Errorf("P2.2: a text of %d with %d behind: %q, %d, %d", size, k, s, to, e)
			}
		}
	}
}

func TestThereAndBack(t *testing.T) {
	for _, v := range uints() {
		b, at := between(PutUint(nil, v))
		if got, to, e := Uint(b, at); got != v || to != len(b)-3 || e != api.OK {
			t.Errorf("P2.6: Uint of %d: %d, %d, %d", v, got, to, e)
		}
	}
	for _, v := range ints() {
		b, at := between(PutInt(nil, v))
		if got, to, e := Int(b, at); got != v || to != len(b)-3 || e != api.OK {
			t.Errorf("P2.6: Int of %d: %d, %d, %d", v, got, to, e)
		}
	}
	for _, n := range []int{0, 1, 127, 128, 16383, 16384, 70000} {
		s := string(noise(n))
		b, at := between(PutText(nil, s))
		if got, to, e := Text(b, at); got != s || to != len(b)-3 || e != api.OK {
			t.Errorf("P2.6: Text of %d bytes: %d bytes, %d, %d", n, len(got), to, e)
		}
	}
}

// TestOneBehindTheOther: the place that is told is where the next one stands.
func TestOneBehindTheOther(t *testing.T) {
	rec := noise(200)
	frame, _ := Frame(rec)
	b := slices.Concat(PutText(PutInt(PutUint(nil, 1<<40), -1<<40), "tide"), frame, PutUint(nil, 5))
	v, at, e := Uint(b, 0)
	if v != 1<<40 || e != api.OK {
		t.Fatalf("P2.6: %d, %d", v, e)
	}
	x, at, e := Int(b, at)
	if x != -1<<40 || e != api.OK {
		t.Fatalf("P2.6: %d, %d", x, e)
	}
	s, at, e := Text(b, at)
	if s != "tide" || e != api.OK {
		t.Fatalf("P2.6: %q, %d", s, e)
	}
	r, at, e := Unframe(b, at)
	if !bytes.Equal(r, rec) || e != api.OK {
		t.Fatalf("P2.6: %x, %d", r, e)
	}
	if v, at, e = Uint(b, at); v != 5 || at != len(b) || e != api.OK {
		t.Fatalf("P2.6: %d, %d, %d", v, at, e)
	}
}

func TestSum(t *testing.T) {
	for n := range 1100 {
		if b := noise(n); Sum(b) != crc32.ChecksumIEEE(b) {
			t.Errorf("P2.3: %d bytes: %x, not %x", n, Sum(b), crc32.ChecksumIEEE(b))
		}
	}
	for _, n := range []int{0, 1, 255, 256, 257, api.MaxRecord, api.MaxFile} {
		for _, x := range []byte{0, 1, 255} {
			if b := bytes.Repeat([]byte{x}, n); Sum(b) != crc32.ChecksumIEEE(b) {
				t.Errorf("P2.3: %d bytes %d: %x, not %x", n, x, Sum(b), crc32.ChecksumIEEE(b))
			}
		}
	}
	for x := range 256 {
		if b := []byte{byte(x)}; Sum(b) != crc32.ChecksumIEEE(b) {
			t.Errorf("P2.3: byte %d: %x", x, Sum(b))
		}
	}
}

// asFrame is a record's frame with that sum.
func asFrame(rec []byte, sum uint32) []byte {
	return slices.Concat(asUint(uint64(len(rec))), []byte{byte(sum >> 24), byte(sum >> 16), byte(sum >> 8), byte(sum)}, rec)
}

// lengths has those at which the bytes of a length, or the way of the sum, are others.
func lengths() []int {
	return []int{0, 1, 2, 5, 127, 128, 255, 256, 257, 16383, 16384, api.MaxRecord - 1, api.MaxRecord}
}

func TestFrames(t *testing.T) {
	for _, n := range lengths() {
		rec := noise(n)
		frame, e := Frame(rec)
		if want := asFrame(rec, crc32.ChecksumIEEE(rec)); e != api.OK || !bytes.Equal(frame, want) {
			t.Errorf("P2.4: Frame of %d bytes: %d bytes, %d", n, len(frame), e)
		}
		b, at := between(frame)
		if got, to, e := Unframe(b, at); !bytes.Equal(got, rec) || to != at+len(frame) || e != api.OK {
			t.Errorf("P2.6: Unframe of %d bytes: %d bytes, %d, %d", n, len(got), to, e)
		}
	}
	for _, n := range []int{api.MaxRecord + 1, api.MaxRecord * 2, api.MaxFile} {
		if frame, e := Frame(make([]byte, n)); len(frame) != 0 || e != api.ErrCodecLong {
			t.Errorf("P2.4: Frame of %d bytes: %d bytes, %d", n, len(frame), e)
		}
	}
}

// refused asks for an error alone.
func refused(t *testing.T, what string, b []byte, at int, want api.Errno) {
	t.Helper()
	if rec, to, e := Unframe(b, at); len(rec) != 0 || to != 0 || e != want {
		t.Errorf("P2.5: %s: %d bytes, %d, %d, not %d", what, len(rec), to, e, want)
	}
}

func TestUnframeWrongLengths(t *testing.T) {
	refused(t, "no length", nil, 0, api.ErrCodecEnd)
	refused(t, "a length that ends early", []byte{0x85}, 0, api.ErrCodecEnd)
	refused(t, "a length with a needless byte", []byte{0x80, 0, 0, 0, 0, 0}, 0, api.ErrCodecForm)
	refused(t, "a length above 2^64 - 1", append(bytes.Repeat([]byte{255}, 9), 2), 0, api.ErrCodecForm)
	for _, size := range []uint64{api.MaxRecord + 1, 1 << 32, 1 << 63, math.MaxUint64 - 3, math.MaxUint64} {
		refused(t, "above MaxRecord, nothing behind", PutUint(nil, size), 0, api.ErrCodecLong)
		refused(t, "above MaxRecord, much behind", append(PutUint(nil, size), make([]byte, api.MaxRecord+10)...), 0, api.ErrCodecLong)
	}
	refused(t, "MaxRecord, nothing behind", PutUint(nil, api.MaxRecord), 0, api.ErrCodecEnd)
	long := make([]byte, api.MaxRecord+1)
	refused(t, "a whole frame of one byte too many", asFrame(long, crc32.ChecksumIEEE(long)), 0, api.ErrCodecLong)
}

func TestUnframeEarlyEnds(t *testing.T) {
	for _, n := range []int{0, 1, 9, 128, 300} {
		rec := noise(n)
		frame := asFrame(rec, crc32.ChecksumIEEE(rec))
		for k := range frame {
			refused(t, "an early end", frame[:k], 0, api.ErrCodecEnd)
			refused(t, "an early end behind other bytes", slices.Concat([]byte{0xff}, frame[:k]), 1, api.ErrCodecEnd)
		}
		// An early end is told ahead of a sum that is another one.
		turned := asFrame(rec, ^crc32.ChecksumIEEE(rec))
		refused(t, "an early end of another sum", turned[:len(turned)-1], 0, api.ErrCodecEnd)
		refused(t, "another sum", turned, 0, api.ErrCodecSum)
	}
}

// TestUnframeTurnedBits: whichever bit of a frame is turned, no record of its length is read; behind the length the sum tells it.
func TestUnframeTurnedBits(t *testing.T) {
	for _, n := range []int{0, 1, 2, 17, 127, 128, 255, 256, 300} {
		rec := noise(n)
		frame := asFrame(rec, crc32.ChecksumIEEE(rec))
		head := len(asUint(uint64(n)))
		for i := range frame {
			for k := range 8 {
				frame[i] ^= 1 << k
				if got, _, e := Unframe(frame, 0); e == api.OK && len(got) == n {
					t.Errorf("P2.6: %d bytes: bit %d of byte %d turned, and read", n, k, i)
				}
				if i >= head {
					refused(t, "a turned bit", frame, 0, api.ErrCodecSum)
				}
				frame[i] ^= 1 << k
			}
		}
	}
}

// TestUnframeTurnedBitsOfTheLongest: of the longest record a bit of each of some bytes is turned.
func TestUnframeTurnedBitsOfTheLongest(t *testing.T) {
	rec := noise(api.MaxRecord)
	frame := asFrame(rec, crc32.ChecksumIEEE(rec))
	for i := 0; i < len(frame); i += 1 + i/4 {
		frame[i] ^= 1 << (i % 8)
		if got, _, e := Unframe(frame, 0); e == api.OK && len(got) == len(rec) {
			t.Errorf("P2.6: byte %d turned, and read", i)
		}
		frame[i] ^= 1 << (i % 8)
	}
}

// TestUnframeWrittenAnew: what is read, whatever stands there, is framed to the same bytes.
func TestUnframeWrittenAnew(t *testing.T) {
	for x := range 256 {
		b := append([]byte{byte(x)}, noise(300)...)
		if x < 128 {
			sum := crc32.ChecksumIEEE(b[5 : 5+x])
			copy(b[1:], []byte{byte(sum >> 24), byte(sum >> 16), byte(sum >> 8), byte(sum)})
		}
		rec, to, e := Unframe(b, 0)
		if (e == api.OK) != (x < 128) {
			t.Errorf("P2.5: first byte %d: %d", x, e)
		}
		if e != api.OK {
			continue
		}
		if frame, _ := Frame(rec); !bytes.Equal(frame, b[:to]) {
			t.Errorf("P2.6: %d bytes, framed anew: %x", x, frame)
		}
	}
}

// roomy is b in memory that goes on behind it, filled with a byte that the package never writes there by chance.
func roomy(b []byte) []byte {
	room := bytes.Repeat([]byte{0xa5}, len(b)+32)
	copy(room, b)
	return room[:len(b)]
}

// asWritten says whether b and the room behind it are as roomy made them.
func asWritten(b, as []byte) bool {
	room := b[:len(b)+32]
	return bytes.Equal(b, as) && bytes.Count(room[len(b):], []byte{0xa5}) == 32
}

func TestPutKeepsWhatIsHandedIn(t *testing.T) {
	for _, was := range [][]byte{{}, {1}, {0x80, 2, 3}} {
		b := roomy(was)
		first := [][]byte{PutUint(b, 1<<63), PutInt(b, -1<<63), PutText(b, "tide")}
		again := [][]byte{PutUint(b, 1<<63), PutInt(b, -1<<63), PutText(b, "tide")}
		for i, x := range first {
			_ = append(x, 9, 9, 9)
			for k := range x {
				x[k]++
			}
			if bytes.Equal(x, again[i]) {
				t.Errorf("R3: two answers share memory: %x", x)
			}
		}
		if !asWritten(b, was) {
			t.Errorf("R3: %x was changed: %x", was, b[:len(b)+32])
		}
		if want := slices.Concat(was, asUint(1<<63)); !bytes.Equal(again[0], want) {
			t.Errorf("R3: %x, not %x", again[0], want)
		}
	}
}

func TestFramesKeepWhatIsHandedIn(t *testing.T) {
	for _, n := range []int{1, 20, 300} {
		was := noise(n)
		rec := roomy(was)
		frame, _ := Frame(rec)
		whole := bytes.Clone(frame)
		frame = append(frame, 9)
		for i := range frame {
			frame[i]++
		}
		if !asWritten(rec, was) {
			t.Errorf("R3: Frame changed its record of %d bytes", n)
		}
		b := roomy(whole)
		got, _, _ := Unframe(b, 0)
		got = append(got, 9)
		for i := range got {
			got[i]++
		}
		if !asWritten(b, whole) {
			t.Errorf("R3: Unframe handed out a piece of what it was given, %d bytes", n)
		}
		if again, _, e := Unframe(b, 0); !bytes.Equal(again, was) || e != api.OK {
			t.Errorf("R3: read again, %d bytes: %d", n, e)
		}
	}
}

// TestReadNotBehindTheEnd: what lies behind a list's length is not read.
func TestReadNotBehindTheEnd(t *testing.T) {
	whole := PutText(nil, "tide")
	for k := range whole {
		if s, to, e := Text(whole[:k], 0); s != "" || to != 0 || e != api.ErrCodecEnd {
			t.Errorf("R3: the first %d bytes: %q, %d, %d", k, s, to, e)
		}
	}
	if v, to, e := Uint(PutUint(nil, 300)[:1], 0); v != 0 || to != 0 || e != api.ErrCodecEnd {
		t.Errorf("R3: half a number: %d, %d, %d", v, to, e)
	}
}

// TestTextIsNotKept: a text that was read stays as it is, whatever becomes of the bytes.
func TestTextIsNotKept(t *testing.T) {
	b := PutText(nil, strings.Repeat("tide", 40))
	s, _, _ := Text(b, 0)
	clear(b)
	if s != strings.Repeat("tide", 40) {
		t.Errorf("R3: %q", s)
	}
}
