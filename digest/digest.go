// Package digest is layer 1: see shared/doc/01-digest.md.
package digest

// Sum256 is a text's SHA-256, 32 bytes.
func Sum256(s string) string {
	var told tail
	sum := start256()
	told.add(s, sum.turn)
	return sum.end(told)
}

// Sum5 is a text's MD5, 16 bytes.
func Sum5(s string) string {
	var told tail
	sum := start5()
	told.add(s, sum.turn)
	return sum.end(told)
}

// MAC is a text's HMAC by SHA-256 with a key, 32 bytes.
func MAC(key, s string) string {
	if len(key) > blockSize {
		key = Sum256(key)
	}
	var told tail
	sum := start256()
	told.add(masked(key, 0x36), sum.turn)
	told.add(s, sum.turn)
	return Sum256(masked(key, 0x5c) + sum.end(told))
}

// masked is a block that begins with the key, each of its bytes mixed with the mask.
func masked(key string, mask byte) string {
	var b block
	copy(b[:], key)
	for i := range b {
		b[i] ^= mask
	}
	return string(b[:])
}

// Sums reckons both sums of a text that comes in pieces.
type Sums struct {
	told tail
	wide state256
	five state5
}

// New has been told nothing.
func New() *Sums {
	return &Sums{wide: start256(), five: start5()}
}

// Write goes on with a piece.
func (s *Sums) Write(piece string) {
	s.told.add(piece, func(b *block) {
		s.wide.turn(b)
		s.five.turn(b)
	})
}

// Size is how many bytes have been told.
func (s *Sums) Size() int { return s.told.size }

// Sum256 is the SHA-256 of what has been told.
func (s *Sums) Sum256() string { return s.wide.end(s.told) }

// Sum5 is the MD5 of what has been told.
func (s *Sums) Sum5() string { return s.five.end(s.told) }
