package store

import "math/bits"

const (
	blockBytes  = 64
	lengthBytes = 8
)

// firstRow are the first 32 bits behind the point of the square roots of the first eight primes.
var firstRow = [8]uint32{
	0x6a09e667, 0xbb67ae85, 0x3c6ef372, 0xa54ff53a,
	0x510e527f, 0x9b05688c, 0x1f83d9ab, 0x5be0cd19,
}

// roundWords are those of the cube roots of the first 64 primes.
var roundWords = [64]uint32{
	0x428a2f98, 0x71374491, 0xb5c0fbcf, 0xe9b5dba5, 0x3956c25b, 0x59f111f1, 0x923f82a4, 0xab1c5ed5,
	0xd807aa98, 0x12835b01, 0x243185be, 0x550c7dc3, 0x72be5d74, 0x80deb1fe, 0x9bdc06a7, 0xc19bf174,
	0xe49b69c1, 0xefbe4786, 0x0fc19dc6, 0x240ca1cc, 0x2de92c6f, 0x4a7484aa, 0x5cb0a9dc, 0x76f988da,
	0x983e5152, 0xa831c66d, 0xb00327c8, 0xbf597fc7, 0xc6e00bf3, 0xd5a79147, 0x06ca6351, 0x14292967,
	0x27b70a85, 0x2e1b2138, 0x4d2c6dfc, 0x53380d13, 0x650a7354, 0x766a0abb, 0x81c2c92e, 0x92722c85,
	0xa2bfe8a1, 0xa81a664b, 0xc24b8b70, 0xc76c51a3, 0xd192e819, 0xd6990624, 0xf40e3585, 0x106aa070,
	0x19a4c116, 0x1e376c08, 0x2748774c, 0x34b0bcb5, 0x391c0cb3, 0x4ed8aa4a, 0x5b9cca4f, 0x682e6ff3,
	0x748f82ee, 0x78a5636f, 0x84c87814, 0x8cc70208, 0x90befffa, 0xa4506ceb, 0xbef9a3f7, 0xc67178f2,
}

// Sum is a text's sum.
func Sum(b []byte) [32]byte {
	row := firstRow
	text := padded(b)
	for len(text) > 0 {
		row = mixed(row, schedule(text[:blockBytes]))
		text = text[blockBytes:]
	}
	var out [32]byte
	for i := range out {
		out[i] = byte(row[i/4] >> (24 - i%4*8))
	}
	return out
}

// padded is a text with what stands behind it, so that it has whole blocks.
func padded(b []byte) []byte {
	out := append(append([]byte{}, b...), 128)
	for len(out)%blockBytes != blockBytes-lengthBytes {
		out = append(out, 0)
	}
	length := uint64(len(b)) * 8
	for i := range lengthBytes {
		out = append(out, byte(length>>(56-i*8)))
	}
	return out
}

// schedule are the words of a block.
func schedule(block []byte) [64]uint32 {
	var w [64]uint32
	for i, b := range block {
		w[i/4] = w[i/4]<<8 | uint32(b)
	}
	for i := 16; i < len(w); i++ {
		s0 := turned(w[i-15], 7, 18) ^ w[i-15]>>3
		s1 := turned(w[i-2], 17, 19) ^ w[i-2]>>10
		w[i] = s1 + w[i-7] + s0 + w[i-16]
	}
	return w
}

// mixed is a row behind a block's words.
func mixed(row [8]uint32, w [64]uint32) [8]uint32 {
	v := row
	for i := range w {
		choice := v[4]&v[5] | ^v[4]&v[6]
		t1 := v[7] + turned(v[4], 6, 11, 25) + choice + roundWords[i] + w[i]
		two := v[0]&v[1] | v[0]&v[2] | v[1]&v[2]
		t2 := turned(v[0], 2, 13, 22) + two
		copy(v[1:], v[:7])
		v[4] += t1
		v[0] = t1 + t2
	}
	for i := range v {
		v[i] += row[i]
	}
	return v
}

// turned is the exclusive or of a word turned right by each of some numbers.
func turned(x uint32, by ...int) uint32 {
	var out uint32
	for _, n := range by {
		out ^= bits.RotateLeft32(x, -n)
	}
	return out
}
