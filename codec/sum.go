package codec

const (
	sumSize = 4
	allOnes = 1<<32 - 1
	mask    = 0xedb88320
	values  = 256 // of a byte
)

// Sum: P2.3. To make the table takes as long as the sum of 256 bytes without it, so fewer bytes do without.
func Sum(b []byte) uint32 {
	if len(b) < values {
		return plainSum(b)
	}
	return tableSum(b, sums())
}

func plainSum(b []byte) uint32 {
	c := uint32(allOnes)
	for _, x := range b {
		c = eightHalves(c ^ uint32(x))
	}
	return c ^ allOnes
}

func tableSum(b []byte, table [values]uint32) uint32 {
	c := uint32(allOnes)
	for _, x := range b {
		c = c/values ^ table[byte(c)^x]
	}
	return c ^ allOnes
}

// sums makes the table where it is needed: eight halves of c are those of its lowest byte, by the table, xor its other bytes moved down.
func sums() [values]uint32 {
	var table [values]uint32
	for i := range table {
		table[i] = eightHalves(uint32(i))
	}
	return table
}

func eightHalves(c uint32) uint32 {
	for range 8 {
		if c%2 == 0 {
			c /= 2
		} else {
			c = c/2 ^ mask
		}
	}
	return c
}

func sumBytes(sum uint32) []byte {
	return []byte{byte(sum >> 24), byte(sum >> 16), byte(sum >> 8), byte(sum)}
}
