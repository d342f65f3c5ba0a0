package eset

import (
	"storehouse/api"
	"storehouse/erasure"
	"storehouse/frame"
	"storehouse/shard"
)

// The names that a disk's store has: of its card, of the card and the keys that are gone when what is under way has come to its end, and, with a key behind, of that key's shard, as it is and as it will be.
const (
	cardName  = "!"
	nextName  = "n"
	goneName  = "t"
	shardMark = "d"
	freshMark = "s"
)

// title is what a card begins with.
const title = "set"

// wordSize is how many bytes a number has.
const wordSize = 4

// lastGen is the greatest generation that a card can tell.
const lastGen = 1<<(8*wordSize) - 1

// isKey tells whether this may be a key.
func isKey(key string) bool { return len(key) >= 1 && len(key) <= api.MaxSetKey }

// word is a number as bytes. It is never refused: none that is told here is below 0, or above lastGen.
func word(n int) string {
	text, _ := frame.Num(n)
	return text
}

// numberIn is the number whose word a text is.
func numberIn(text string) (int, bool) {
	if len(text) != wordSize {
		return 0, false
	}
	n := 0
	for i := range wordSize {
		n = n<<8 | int(text[i])
	}
	return n, true
}

// sealed is some texts as one, sealed for a name. They are never refused: keys, and how many of them a Commit changes, have their limits, and so have values.
func sealed(name string, texts ...string) string {
	list, _ := frame.List(texts...)
	text, _ := shard.Seal(name, list)
	return text
}

// opened is the texts that were sealed for a name.
func opened(name, text string) ([]string, error) {
	list, err := shard.Open(name, text)
	if err != nil {
		return nil, wrapped(err)
	}
	texts, err := frame.Split(list)
	if err != nil {
		return nil, fault(api.ErrRot, 0)
	}
	return texts, nil
}

// shape is into how many shards a set's values are cut: k with their bytes, and m more.
type shape struct{ k, m int }

// fits tells whether a set of this shape may have so many disks.
func (s shape) fits(disks int) bool {
	return s.k >= 1 && s.m >= 0 && disks <= api.MaxDisks && s.m == disks-s.k
}

// place is a disk of a set: its number, among as many as the shape has shards.
type place struct {
	shape
	number int
}

// card is the card of the disk at a generation, sealed.
func (p place) card(gen int) string {
	return sealed(cardName, title, word(p.k), word(p.m), word(p.number), word(gen))
}

// genIn is the generation of a card of this disk; false, if a text is none.
func (p place) genIn(text string) (int, bool) {
	texts, err := opened(cardName, text)
	if err != nil || len(texts) == 0 {
		return 0, false
	}
	gen, ok := numberIn(texts[len(texts)-1])
	return gen, ok && text == p.card(gen)
}

// seal is the disk's shard of a value, as it keeps it.
func (p place) seal(v value) string {
	return sealed(shardMark+v.key, word(p.number), word(v.length), v.shards[p.number])
}

// piece is what a shard tells of a value: its length, and the bytes that one of its shards has.
type piece struct {
	length int
	data   string
}

// pieceIn is the piece that this disk keeps for a key; ErrRot, if a text is none.
func (p place) pieceIn(key, text string) (piece, error) {
	texts, err := opened(shardMark+key, text)
	if err != nil {
		return piece{}, err
	}
	if len(texts) != 3 || texts[0] != word(p.number) {
		return piece{}, fault(api.ErrRot, 0)
	}
	length, ok := numberIn(texts[1])
	if !ok || length > api.MaxSetValue || !p.isShard(length, texts[2]) {
		return piece{}, fault(api.ErrRot, 0)
	}
	return piece{length: length, data: texts[2]}, nil
}

// isShard tells whether a value of a length may have such a shard.
func (p place) isShard(length int, data string) bool {
	size, err := erasure.Size(p.k, length)
	return err == nil && len(data) == size
}
