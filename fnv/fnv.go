// Package fnv is the hash of chapter 3: what the layers share that hash bytes.
package fnv

const (
	start = 2166136261
	prime = 16777619
)

// Sum is the hash of bytes.
func Sum(b []byte) uint32 {
	h := uint32(start)
	for _, x := range b {
		h = (h ^ uint32(x)) * prime
	}
	return h
}
