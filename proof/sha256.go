package proof

import (
	"math/bits"

	"guilloche/api"
)

// blockSize is how many bytes are compressed at once.
const blockSize = 64

// The first 32 bits of the fractional parts of the square roots of the first 8 primes.
var firstState = [8]uint32{
	0x6a09e667, 0xbb67ae85, 0x3c6ef372, 0xa54ff53a, 0x510e527f, 0x9b05688c, 0x1f83d9ab, 0x5be0cd19,
}

// The first 32 bits of the fractional parts of the cube roots of the first 64 primes.
var roundWords = [64]uint32{
	0x428a2f98, 0x71374491, 0xb5c0fbcf, 0xe9b5dba5, 0x3956c25b, 0x59f111f1, 0x923f82a4, 0xab1c5ed5,
	0xd807aa98, 0x12835b01, 0x243185be, 0x550c7dc3, 0x72be5d74, 0x80deb1fe, 0x9bdc06a7, 0xc19bf174,
	0xe49b69c1, 0xefbe4786, 0x0fc19dc6, 0x240ca1cc, 0x2de92c6f, 0x4a7484aa, 0x5cb0a9dc, 0x76f988da,
	0x983e5152, 0xa831c66d, 0xb00327c8, 0xbf597fc7, 0xc6e00bf3, 0xd5a79147, 0x06ca6351, 0x14292967,
	0x27b70a85, 0x2e1b2138, 0x4d2c6dfc, 0x53380d13, 0x650a7354, 0x766a0abb, 0x81c2c92e, 0x92722c85,
	0xa2bfe8a1, 0xa81a664b, 0xc24b8b70, 0xc76c51a3, 0xd192e819, 0xd6990624, 0xf40e3585, 0x106aa070,
	0x19a4c116, 0x1e376c08, 0x2748774c, 0x34b0bcb5, 0x391c0cb3, 0x4ed8aa4a, 0x5b9cca4f, 0x682e6ff3,
	0x748f82ee, 0x78a5636f, 0x84c87814, 0x8cc70208, 0x90befffa, 0xa4506ceb, 0xbef9a3f7, 0xc67178f2,
}

// digest is the state of a hash, of whose string the first bytes are known.
type digest struct {
	state  [8]uint32
	block  [blockSize]byte // begins with the bytes that are not yet compressed
	length int             // in bytes
}

// hashOf returns the hash of the strings, which are concatenated.
func hashOf(list ...string) api.Hash {
	d := digest{state: firstState}
	for _, s := range list {
		d.write(s)
	}
	return d.finish()
}

// write adds a string.
func (d *digest) write(s string) {
	for len(s) > 0 {
		n := copy(d.block[d.length%blockSize:], s)
		d.length += n
		s = s[n:]
		if d.length%blockSize == 0 {
			d.state = compress(d.state, &d.block)
		}
	}
}

// finish adds a bit, zeros up to the end of a block, and how many bits there were before; and returns the hash.
func (d *digest) finish() api.Hash {
	length := eight(8 * d.length)
	d.write("\x80")
	for d.length%blockSize != blockSize-len(length) {
		d.write("\x00")
	}
	d.write(length)
	var out api.Hash
	for i := range out {
		out[i] = byte(d.state[i/4] >> (24 - 8*(i%4)))
	}
	return out
}

// eight returns a number as eight bytes, the most significant one first.
func eight(number int) string {
	var out [8]byte
	for i := range out {
		out[i] = byte(number >> (56 - 8*i))
	}
	return string(out[:])
}

// compress returns the state after a block. (Its variables have the names that FIPS 180-4 gives them.)
func compress(state [8]uint32, block *[blockSize]byte) [8]uint32 {
	a, b, c, d, e, f, g, h := state[0], state[1], state[2], state[3], state[4], state[5], state[6], state[7]
	words := expand(block)
	for i := range words {
		one := h + (right(e, 6) ^ right(e, 11) ^ right(e, 25)) + (e&f ^ ^e&g) + roundWords[i] + words[i]
		two := (right(a, 2) ^ right(a, 13) ^ right(a, 22)) + (a&b ^ a&c ^ b&c)
		a, b, c, d, e, f, g, h = one+two, a, b, c, d+one, e, f, g
	}
	for i, word := range [8]uint32{a, b, c, d, e, f, g, h} {
		state[i] += word
	}
	return state
}

// expand returns the words of a block, and those that follow from them, one for each round.
func expand(block *[blockSize]byte) [64]uint32 {
	var w [64]uint32
	for i := range 16 {
		for _, b := range block[4*i : 4*i+4] {
			w[i] = w[i]<<8 | uint32(b)
		}
	}
	for i := 16; i < len(w); i++ {
		early := right(w[i-15], 7) ^ right(w[i-15], 18) ^ w[i-15]>>3
		late := right(w[i-2], 17) ^ right(w[i-2], 19) ^ w[i-2]>>10
		w[i] = w[i-16] + early + w[i-7] + late
	}
	return w
}

// right rotates a word by so many bits to the right.
func right(word uint32, count int) uint32 { return bits.RotateLeft32(word, -count) }
