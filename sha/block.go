package sha

import "math/bits"

const rounds = 64

// constants are the document's K(0) to K(63), of the cube roots of the primes from 2 to 311.
var constants = [rounds]uint32{
	0x428a2f98, 0x71374491, 0xb5c0fbcf, 0xe9b5dba5, 0x3956c25b, 0x59f111f1, 0x923f82a4, 0xab1c5ed5,
	0xd807aa98, 0x12835b01, 0x243185be, 0x550c7dc3, 0x72be5d74, 0x80deb1fe, 0x9bdc06a7, 0xc19bf174,
	0xe49b69c1, 0xefbe4786, 0x0fc19dc6, 0x240ca1cc, 0x2de92c6f, 0x4a7484aa, 0x5cb0a9dc, 0x76f988da,
	0x983e5152, 0xa831c66d, 0xb00327c8, 0xbf597fc7, 0xc6e00bf3, 0xd5a79147, 0x06ca6351, 0x14292967,
	0x27b70a85, 0x2e1b2138, 0x4d2c6dfc, 0x53380d13, 0x650a7354, 0x766a0abb, 0x81c2c92e, 0x92722c85,
	0xa2bfe8a1, 0xa81a664b, 0xc24b8b70, 0xc76c51a3, 0xd192e819, 0xd6990624, 0xf40e3585, 0x106aa070,
	0x19a4c116, 0x1e376c08, 0x2748774c, 0x34b0bcb5, 0x391c0cb3, 0x4ed8aa4a, 0x5b9cca4f, 0x682e6ff3,
	0x748f82ee, 0x78a5636f, 0x84c87814, 0x8cc70208, 0x90befffa, 0xa4506ceb, 0xbef9a3f7, 0xc67178f2,
}

// firstState is of the square roots of the primes from 2 to 19.
func firstState() [8]uint32 {
	return [8]uint32{0x6a09e667, 0xbb67ae85, 0x3c6ef372, 0xa54ff53a, 0x510e527f, 0x9b05688c, 0x1f83d9ab, 0x5be0cd19}
}

// mix answers the state that a block makes of another one.
func mix(state [8]uint32, block [blockSize]byte) [8]uint32 {
	w := spread(block)
	// Names of their own: an array's words would go to memory and back with each round.
	a, b, c, d, e, f, g, h := state[0], state[1], state[2], state[3], state[4], state[5], state[6], state[7]
	for t := range rounds {
		x := h + (right(e, 6) ^ right(e, 11) ^ right(e, 25)) + chosen(e, f, g) + constants[t] + w[t]
		y := (right(a, 2) ^ right(a, 13) ^ right(a, 22)) + most(a, b, c)
		h, g, f, e, d, c, b, a = g, f, e, d+x, c, b, a, x+y
	}
	return [8]uint32{state[0] + a, state[1] + b, state[2] + c, state[3] + d, state[4] + e, state[5] + f, state[6] + g, state[7] + h}
}

// spread answers the block's words, and those that follow from them.
func spread(block [blockSize]byte) [rounds]uint32 {
	var w [rounds]uint32
	own := blockSize / wordSize
	for t := range own {
		at := t * wordSize
		w[t] = uint32(block[at])<<24 | uint32(block[at+1])<<16 | uint32(block[at+2])<<8 | uint32(block[at+3])
	}
	for t := own; t < rounds; t++ {
		far, near := w[t-15], w[t-2]
		w[t] = (right(near, 17) ^ right(near, 19) ^ near>>10) + w[t-7] + (right(far, 7) ^ right(far, 18) ^ far>>3) + w[t-16]
	}
	return w
}

// right turns x right by n bits.
func right(x uint32, n int) uint32 { return bits.RotateLeft32(x, -n) }

// chosen has the bits of f where e has 1, and else those of g.
func chosen(e, f, g uint32) uint32 { return e&f | ^e&g }

// most has the bits that two of the three have.
func most(a, b, c uint32) uint32 { return a&b | a&c | b&c }
