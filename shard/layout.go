package shard

import (
	"iter"

	"storehouse/api"
)

// How a sealed text is laid down: its head (the text's length as a number, and a sum), and of each block its bytes, and a sum.
const (
	wordSize    = 4
	sumSize     = 32
	headSize    = wordSize + sumSize
	blockAndSum = api.BlockSize + sumSize
)

// cut tells what a text is made of, one behind the other: so many bytes each, the last one perhaps less, numbered from 0 on.
func cut(text string, size int) iter.Seq2[int, string] {
	return func(yield func(number int, piece string) bool) {
		for number := 0; text != ""; number++ {
			many := min(size, len(text))
			if !yield(number, text[:many]) {
				return
			}
			text = text[many:]
		}
	}
}

// lengthIn is the length that a sealed text's head says, if it has as many bytes as one of that length has.
func lengthIn(sealed string) (int, bool) {
	if len(sealed) < headSize {
		return 0, false
	}
	length := 0
	for i := range wordSize {
		length = length<<8 | int(sealed[i])
	}
	if Size(length) != len(sealed) {
		return 0, false
	}
	return length, true
}
