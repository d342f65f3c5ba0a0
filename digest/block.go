package digest

import "strings"

// blockSize is how many bytes both sums take at a time.
const blockSize = 64

// block is the bytes that a sum takes in one turn.
type block [blockSize]byte

// words are the block's, each with its lowest byte first, or its highest.
func (b *block) words(lowFirst bool) [16]uint32 {
	var words [16]uint32
	for i, c := range b {
		place := i % 4
		if !lowFirst {
			place = 3 - place
		}
		words[i/4] |= uint32(c) << (8 * place)
	}
	return words
}

// byteOf is the byte at place i of a number of so many bytes, the lowest one first, or the highest.
func byteOf(number uint64, i, bytes int, lowFirst bool) byte {
	if !lowFirst {
		i = bytes - 1 - i
	}
	return byte(number >> (8 * i))
}

// textOf is the words' bytes, a word's lowest byte first, or its highest.
func textOf(words []uint32, lowFirst bool) string {
	var text strings.Builder
	for _, w := range words {
		for i := range 4 {
			text.WriteByte(byteOf(uint64(w), i, 4, lowFirst))
		}
	}
	return text.String()
}

// tail is what is kept of a text that comes in pieces: how many bytes it has, and those that fill no block yet.
type tail struct {
	size int
	rest block
}

// add goes on with a piece, and hands each block that is filled to take.
func (t *tail) add(piece string, take func(b *block)) {
	for len(piece) > 0 {
		at := t.size % blockSize
		n := copy(t.rest[at:], piece)
		piece = piece[n:]
		t.size += n
		if at+n == blockSize {
			take(&t.rest)
		}
	}
}

// closing is what stands behind a text of so many bytes, so that it ends with a block: a bit that is set, noughts, and the number of its bits.
func closing(size int, lowFirst bool) string {
	noughts := (2*blockSize - 1 - 8 - size%blockSize) % blockSize
	text := make([]byte, 1+noughts, blockSize+8)
	text[0] = 0x80
	for i := range 8 {
		text = append(text, byteOf(uint64(size)*8, i, 8, lowFirst))
	}
	return string(text)
}
