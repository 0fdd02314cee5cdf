package seal

import (
	"bytes"
	"encoding/binary"
	"hash/crc32"
	"strings"
	"testing"
)

func closed(b []byte) []byte {
	return binary.BigEndian.AppendUint32(bytes.Clone(b), crc32.ChecksumIEEE(b))
}

func bodies() [][]byte {
	return [][]byte{nil, {0}, {255}, []byte("123456789"), []byte("\x00\x00\x00\x00"), []byte(strings.Repeat("tidewrack", 50))}
}

func TestClose(t *testing.T) {
	for _, b := range bodies() {
		if got := Close(b); !bytes.Equal(got, closed(b)) {
			t.Errorf("Close(%x): %x", b, got)
		}
	}
	room := []byte("tidewrack")
	_ = Close(room[:4])
	if string(room) != "tidewrack" {
		t.Errorf("R3: Close wrote behind its bytes: %s", room)
	}
}

func TestOpen(t *testing.T) {
	for _, b := range bodies() {
		c := closed(b)
		if got, ok := Open(c); !ok || !bytes.Equal(got, b) {
			t.Errorf("Open(%x): %x, %v", c, got, ok)
		}
		for i := range 8 * len(c) {
			turned := bytes.Clone(c)
			turned[i/8] ^= 1 << (i % 8)
			if got, ok := Open(turned); ok || got != nil {
				t.Errorf("Open(%x), the bit %d turned: %x, %v", c, i, got, ok)
			}
		}
	}
	for _, b := range [][]byte{nil, {0}, {0, 0}, {0, 0, 0}, {1, 0, 0, 0}, {0, 0, 0, 0, 0}} {
		if got, ok := Open(b); ok || got != nil {
			t.Errorf("Open(%x): %x, %v", b, got, ok)
		}
	}
}
