package erasure_test

import (
	"math"
	"math/rand"
	"slices"
	"strings"
	"testing"

	"storehouse/api"
	"storehouse/erasure"
	"storehouse/field"
)

// rounded is how often k must be counted to reach a length.
func rounded(k, length int) int {
	size := 0
	for size*k < length {
		size++
	}
	return size
}

// parity is what belongs to the first shards, byte by byte: the sum of theirs, each taken as often as the inverse of the sum of both shards' numbers says.
func parity(m int, data []string) []string {
	k := len(data)
	var list []string
	for i := range m {
		text := make([]byte, len(data[0]))
		for j := range k {
			times, _ := field.Inv(byte(k+i) ^ byte(j))
			for place := range text {
				text[place] ^= field.Mul(times, data[j][place])
			}
		}
		list = append(list, string(text))
	}
	return list
}

// encoded is a text's shards: its bytes, made up with bytes 0, and what belongs to these.
func encoded(k, m int, text string) []string {
	size := rounded(k, len(text))
	text += strings.Repeat("\x00", k*size-len(text))
	var data []string
	for len(data) < k {
		data = append(data, text[:size])
		text = text[size:]
	}
	return append(data, parity(m, data)...)
}

// anyText is so many bytes of all values.
func anyText(r *rand.Rand, length int) string {
	text := make([]byte, length)
	r.Read(text)
	return string(text)
}

// anyTexts are texts of any bytes and of one length.
func anyTexts(r *rand.Rand, many, length int) []string {
	var list []string
	for range many {
		list = append(list, anyText(r, length))
	}
	return list
}

// pieces are shards, of which those that are named are there; the others have something that is none of theirs.
func pieces(shards []string, numbers ...int) []api.Piece {
	list := make([]api.Piece, len(shards))
	for i, shard := range shards {
		list[i] = api.Piece{Data: []string{"", "x", shard + "y", shard}[i%4]}
	}
	for _, i := range numbers {
		list[i] = api.Piece{Has: true, Data: shards[i]}
	}
	return list
}

// upTo are the numbers below n.
func upTo(n int) []int {
	var all []int
	for i := range n {
		all = append(all, i)
	}
	return all
}

// chosen are the numbers below n whose bit is set.
func chosen(n, bits int) []int {
	return slices.DeleteFunc(upTo(n), func(i int) bool { return bits>>i&1 == 0 })
}

// sizes are some k and m, up to MaxRows together.
func sizes() [][2]int {
	return [][2]int{{1, 0}, {2, 0}, {7, 0}, {255, 0}, {1, 1}, {1, 2}, {1, 254}, {2, 1}, {2, 2}, {3, 2}, {4, 3}, {5, 1}, {12, 4}, {40, 30}, {128, 127}, {200, 55}, {254, 1}}
}

// wrongSizes are k and m that may not be: they are too few, too many, or seem right as their sum wraps.
func wrongSizes() [][2]int {
	all := [][2]int{{0, 0}, {0, 1}, {0, 255}, {-1, 0}, {-1, 1}, {-1, 3}, {1, -1}, {3, -1}, {256, 0}, {256, -1}, {257, -2}, {255, 1}, {1, 255}, {128, 128}, {200, 56}, {2, 254}}
	for _, n := range []int{math.MinInt, math.MinInt32, -255, 1 << 32, 1<<32 + 1, math.MaxInt32, math.MaxInt - 1, math.MaxInt} {
		all = append(all, [2]int{n, 0}, [2]int{n, 1}, [2]int{n, 255}, [2]int{n, n}, [2]int{n, -n}, [2]int{n, 3 - n})
		all = append(all, [2]int{1, n}, [2]int{2, n}, [2]int{255, n}, [2]int{3 - n, n})
	}
	return all
}

// is asks that an error is a fault of this number, that came from nothing; of OK, that it is none.
func is(t *testing.T, what string, err error, code api.Errno) {
	t.Helper()
	if code == api.OK {
		if err != nil {
			t.Errorf("%s: %v", what, err)
		}
		return
	}
	if f, ok := err.(*api.Fault); !ok || *f != (api.Fault{Code: code}) {
		t.Errorf("%s: %v, not %v", what, err, code)
	}
}

// sized asks that Size answers a number, or an error and 0.
func sized(t *testing.T, k, length, want int, code api.Errno) {
	t.Helper()
	got, err := erasure.Size(k, length)
	is(t, "Size", err, code)
	if got != want {
		t.Errorf("Size(%d, %d): %d, not %d", k, length, got, want)
	}
}

// encodes asks that Encode answers shards, or an error and none.
func encodes(t *testing.T, k, m int, text string, want []string, code api.Errno) {
	t.Helper()
	got, err := erasure.Encode(k, m, text)
	is(t, "Encode", err, code)
	if !slices.Equal(got, want) {
		t.Errorf("Encode(%d, %d, %q): %q, not %q", k, m, brief(text), brief(got...), brief(want...))
	}
}

// restores asks that Restore answers shards, or an error and none.
func restores(t *testing.T, k, m, length int, pieces []api.Piece, want []string, code api.Errno) {
	t.Helper()
	got, err := erasure.Restore(k, m, length, pieces)
	is(t, "Restore", err, code)
	if !slices.Equal(got, want) {
		t.Errorf("Restore(%d, %d, %d) of %d: %q, not %q", k, m, length, len(pieces), brief(got...), brief(want...))
	}
}

// joins asks that Join answers a text, or an error and none.
func joins(t *testing.T, k, length int, shards []string, want string, code api.Errno) {
	t.Helper()
	got, err := erasure.Join(k, length, shards)
	is(t, "Join", err, code)
	if got != want {
		t.Errorf("Join(%d, %d, %q): %q, not %q", k, length, brief(shards...), brief(got), brief(want))
	}
}

// checks asks what Check answers.
func checks(t *testing.T, k, m int, shards []string, want bool, code api.Errno) {
	t.Helper()
	got, err := erasure.Check(k, m, shards)
	is(t, "Check", err, code)
	if got != want {
		t.Errorf("Check(%d, %d, %q): %v", k, m, brief(shards...), got)
	}
}

// brief is what of texts can be read in a test's complaint.
func brief(texts ...string) []string {
	var list []string
	for _, text := range texts[:min(len(texts), 20)] {
		list = append(list, text[:min(len(text), 20)])
	}
	return list
}
