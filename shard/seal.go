package shard

import (
	"storehouse/digest"
	"storehouse/frame"
)

// seal is what all sums of a sealed text are made of, beside its blocks: the name, and the text's length.
type seal struct{ name, length string }

// sealOf is the seal for a name, of a text of a length.
func sealOf(name string, length int) seal { return seal{name, word(length)} }

// head is what stands ahead of the blocks.
func (s seal) head() string { return s.length + sum(s.name, s.length) }

// sumOf is a block's sum.
func (s seal) sumOf(number int, block string) string {
	return sum(s.name, s.length, word(number), block)
}

// sum is that of some texts as one. They are never refused: a name and a block are short enough.
func sum(texts ...string) string {
	list, _ := frame.List(texts...)
	return digest.Sum256(list)
}

// word is a number as bytes. It is never refused: lengths and numbers of blocks are at most MaxSealed.
func word(n int) string {
	text, _ := frame.Num(n)
	return text
}
