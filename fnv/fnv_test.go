package fnv

import (
	"bytes"
	"hash/fnv"
	"testing"
)

func TestSumAsTheLibrary(t *testing.T) {
	lists := [][]byte{nil, {}, []byte("tidewrack"), bytes.Repeat([]byte{0}, 1000), bytes.Repeat([]byte{255}, 1000)}
	for x := range 256 {
		lists = append(lists, []byte{byte(x)}, []byte{7, byte(x)}, []byte{byte(x), 7})
	}
	for _, b := range lists {
		h := fnv.New32a()
		h.Write(b)
		if got := Sum(b); got != h.Sum32() {
			t.Errorf("%x: %08x, not %08x", b, got, h.Sum32())
		}
	}
}

func TestSumWrittenOut(t *testing.T) {
	for s, want := range map[string]uint32{"": 2166136261, "\x00": 84696351, "a": 0xe40c292c, "foobar": 0xbf9cf968} {
		if got := Sum([]byte(s)); got != want {
			t.Errorf("%q: %d, not %d", s, got, want)
		}
	}
}
