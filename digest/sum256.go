package digest

import "math/bits"

// state256 is how far a SHA-256 has come.
type state256 [8]uint32

// start256 is the state ahead of the first block.
func start256() state256 {
	return state256{
		0x6a09e667, 0xbb67ae85, 0x3c6ef372, 0xa54ff53a,
		0x510e527f, 0x9b05688c, 0x1f83d9ab, 0x5be0cd19,
	}
}

// turn takes a block in; a to h are named as in FIPS 180-4.
func (s *state256) turn(taken *block) {
	addends, words := addends256(), spread256(taken)
	a, b, c, d, e, f, g, h := s[0], s[1], s[2], s[3], s[4], s[5], s[6], s[7]
	for i := range words {
		mixed := bits.RotateLeft32(e, -6) ^ bits.RotateLeft32(e, -11) ^ bits.RotateLeft32(e, -25)
		choice := (e & f) ^ (^e & g)
		first := h + mixed + choice + addends[i] + words[i]

		mixed = bits.RotateLeft32(a, -2) ^ bits.RotateLeft32(a, -13) ^ bits.RotateLeft32(a, -22)
		most := (a & b) ^ (a & c) ^ (b & c)
		second := mixed + most

		a, b, c, d, e, f, g, h = first+second, a, b, c, d+first, e, f, g
	}
	for i, word := range [8]uint32{a, b, c, d, e, f, g, h} {
		s[i] += word
	}
}

// end is the sum, if nothing comes behind what was told; s and told are copies, so that more may come all the same.
func (s state256) end(told tail) string {
	told.add(closing(told.size, false), s.turn)
	return textOf(s[:], false)
}

// spread256 is the block's words, and those that are made of them.
func spread256(b *block) [64]uint32 {
	var w [64]uint32
	given := b.words(false)
	copy(w[:], given[:])
	for i := len(given); i < len(w); i++ {
		near, far := w[i-2], w[i-15]
		near = bits.RotateLeft32(near, -17) ^ bits.RotateLeft32(near, -19) ^ near>>10
		far = bits.RotateLeft32(far, -7) ^ bits.RotateLeft32(far, -18) ^ far>>3
		w[i] = near + w[i-7] + far + w[i-16]
	}
	return w
}

// addends256 is what each round adds: FIPS 180-4, section 4.2.2.
func addends256() [64]uint32 {
	return [64]uint32{
		0x428a2f98, 0x71374491, 0xb5c0fbcf, 0xe9b5dba5, 0x3956c25b, 0x59f111f1, 0x923f82a4, 0xab1c5ed5,
		0xd807aa98, 0x12835b01, 0x243185be, 0x550c7dc3, 0x72be5d74, 0x80deb1fe, 0x9bdc06a7, 0xc19bf174,
		0xe49b69c1, 0xefbe4786, 0x0fc19dc6, 0x240ca1cc, 0x2de92c6f, 0x4a7484aa, 0x5cb0a9dc, 0x76f988da,
		0x983e5152, 0xa831c66d, 0xb00327c8, 0xbf597fc7, 0xc6e00bf3, 0xd5a79147, 0x06ca6351, 0x14292967,
		0x27b70a85, 0x2e1b2138, 0x4d2c6dfc, 0x53380d13, 0x650a7354, 0x766a0abb, 0x81c2c92e, 0x92722c85,
		0xa2bfe8a1, 0xa81a664b, 0xc24b8b70, 0xc76c51a3, 0xd192e819, 0xd6990624, 0xf40e3585, 0x106aa070,
		0x19a4c116, 0x1e376c08, 0x2748774c, 0x34b0bcb5, 0x391c0cb3, 0x4ed8aa4a, 0x5b9cca4f, 0x682e6ff3,
		0x748f82ee, 0x78a5636f, 0x84c87814, 0x8cc70208, 0x90befffa, 0xa4506ceb, 0xbef9a3f7, 0xc67178f2,
	}
}
