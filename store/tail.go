package store

import (
	"slices"
	"strings"

	"storehouse/api"
	"storehouse/frame"
)

// wordSize is how many bytes a number of a tail has; in pairs they stand: the length and the sum, and each run.
const (
	wordSize = 4
	pairSize = 2 * wordSize
)

// tail is what there is of a value: its length, its sum, and the sectors that it has, in the order of its bytes.
type tail struct {
	length int
	sum    uint32
	runs   []api.Extent
}

// text is a tail as a text: the length, the sum, and of each run the first sector and how many.
func (t tail) text() (string, error) {
	numbers := []int{t.length, int(t.sum)}
	for _, run := range t.runs {
		numbers = append(numbers, run.From, run.Many)
	}
	var text strings.Builder
	for _, n := range numbers {
		word, err := frame.Num(n)
		if err != nil {
			return "", err
		}
		text.WriteString(word)
	}
	return text.String(), nil
}

// tailOf is the tail that has a text; false, if none has it.
func tailOf(text string) (tail, bool) {
	if len(text) < pairSize || len(text)%pairSize != 0 {
		return tail{}, false
	}
	t := tail{length: word(text), sum: uint32(word(text[wordSize:]))}
	for text = text[pairSize:]; text != ""; text = text[pairSize:] {
		t.runs = append(t.runs, api.Extent{From: word(text), Many: word(text[wordSize:])})
	}
	return t, true
}

// word is the number that a text begins with.
func word(text string) int {
	n := 0
	for i := range wordSize {
		n = n<<8 | int(text[i])
	}
	return n
}

// same tells whether two tails are one text.
func (t tail) same(other tail) bool {
	return t.length == other.length && t.sum == other.sum && slices.Equal(t.runs, other.runs)
}

// right tells whether a value may be so long, and has as many sectors as it wants, all of the data.
func (t tail) right(data api.Extent) bool {
	if t.length > api.MaxValue {
		return false
	}
	sectors := 0
	for _, run := range t.runs {
		ahead := run.From - data.From
		if run.Many < 1 || ahead < 0 || run.Many > data.Many-ahead {
			return false
		}
		sectors += run.Many
	}
	return sectors == sectorsFor(t.length)
}
