package erasure_test

import (
	"math"
	"math/rand"
	"slices"
	"strings"
	"testing"

	"storehouse/api"
	"storehouse/erasure"
)

// The chapter's examples.
func TestExamples(t *testing.T) {
	all := []string{"ab", "c\x00", "\x9f\x31"}
	sized(t, 3, 10, 4, api.OK)
	sized(t, 3, 0, 0, api.OK)
	sized(t, 0, 1, 0, api.ErrArg)
	encodes(t, 2, 1, "abc", all, api.OK)
	restores(t, 2, 1, 3, []api.Piece{{}, {Has: true, Data: all[1]}, {Has: true, Data: all[2]}}, all, api.OK)
	restores(t, 2, 1, 3, []api.Piece{{}, {Has: true, Data: all[1]}, {}}, nil, api.ErrFew)
	restores(t, 2, 1, 3, []api.Piece{{Has: true, Data: all[0]}, {Has: true, Data: all[1]}}, nil, api.ErrShape)
	joins(t, 2, 3, all[:2], "abc", api.OK)
}

// P8.1: Size is L / k, rounded up: the least that, k times, reaches L.
func TestSize(t *testing.T) {
	for k := 1; k <= api.MaxRows; k++ {
		for length := range 3*k + 2 {
			sized(t, k, length, rounded(k, length), api.OK)
		}
		for _, length := range []int{8000, 10000, math.MaxInt32, math.MaxInt32 + 1, math.MaxInt - 300, math.MaxInt - 1, math.MaxInt} {
			got, err := erasure.Size(k, length)
			is(t, "Size", err, api.OK)
			// All shards' bytes may be more than an int can tell.
			if bytes := uint64(got) * uint64(k); bytes < uint64(length) || bytes-uint64(length) >= uint64(k) {
				t.Error("Size:", k, length, got)
			}
		}
	}
}

// P8.1: Encode's shards, byte by byte, of texts that fill them, that end in one, and that leave some with bytes 0 alone.
func TestEncode(t *testing.T) {
	r := rand.New(rand.NewSource(1))
	for k := 1; k <= 8; k++ {
		for m := range 6 {
			for length := range 3*k + 2 {
				text := anyText(r, length)
				encodes(t, k, m, text, encoded(k, m, text), api.OK)
			}
		}
	}
	for _, s := range sizes() {
		for _, length := range []int{0, 1, s[0] - 1, s[0], s[0] + 1, 300, 1000} {
			text := anyText(r, length)
			encodes(t, s[0], s[1], text, encoded(s[0], s[1], text), api.OK)
		}
	}
	text := anyText(r, 100000)
	encodes(t, 3, 2, text, encoded(3, 2, text), api.OK)
}

// P8.1: each byte by itself, as the one of two shards and as the other.
func TestEncodeOfEachByte(t *testing.T) {
	for i := range 256 {
		for _, text := range []string{string([]byte{byte(i)}), string([]byte{0, byte(i)}), string([]byte{byte(i), byte(3*i + 1)})} {
			encodes(t, 1, 2, text, encoded(1, 2, text), api.OK)
			encodes(t, 2, 2, text, encoded(2, 2, text), api.OK)
		}
	}
}

// P8.1: a text without bytes has shards without bytes; without more shards there are the text's alone.
func TestEncodeOfNothing(t *testing.T) {
	encodes(t, 3, 2, "", make([]string, 5), api.OK)
	encodes(t, 255, 0, "", make([]string, 255), api.OK)
	encodes(t, 1, 0, "abc", []string{"abc"}, api.OK)
	encodes(t, 2, 0, "abc", []string{"ab", "c\x00"}, api.OK)
	encodes(t, 5, 0, "abcdef", []string{"ab", "cd", "ef", "\x00\x00", "\x00\x00"}, api.OK)
	encodes(t, 1, 1, "\x00\x00", []string{"\x00\x00", "\x00\x00"}, api.OK)
}

// P8.1: every call refuses k, m and lengths that may not be, ahead of all else that is wrong, and takes the greatest.
func TestArguments(t *testing.T) {
	some := [][]string{nil, {""}, {"a"}, {"a", "bc"}, make([]string, 3), make([]string, 255), make([]string, 256)}
	for i, s := range wrongSizes() {
		shards := some[i%len(some)]
		list := pieces(shards, upTo(len(shards))...)
		encodes(t, s[0], s[1], "abc", nil, api.ErrArg)
		restores(t, s[0], s[1], 0, list, nil, api.ErrArg)
		restores(t, s[0], s[1], i%5, list, nil, api.ErrArg)
		checks(t, s[0], s[1], shards, false, api.ErrArg)
		if s[0] < 1 || s[0] > api.MaxRows {
			sized(t, s[0], i%5, 0, api.ErrArg)
			joins(t, s[0], i%5, shards, "", api.ErrArg)
		}
	}
	for _, length := range []int{-1, -2, math.MinInt32, math.MinInt + 1, math.MinInt} {
		for _, s := range sizes() {
			sized(t, s[0], length, 0, api.ErrArg)
			restores(t, s[0], s[1], length, pieces(make([]string, s[0]+s[1]), upTo(s[0]+s[1])...), nil, api.ErrArg)
			restores(t, s[0], s[1], length, nil, nil, api.ErrArg)
			joins(t, s[0], length, make([]string, s[0]), "", api.ErrArg)
			joins(t, s[0], length, nil, "", api.ErrArg)
		}
	}
	for k := 1; k <= api.MaxRows; k++ {
		m := api.MaxRows - k
		all := make([]string, k+m+1)
		encodes(t, k, m, "", all[:k+m], api.OK)
		encodes(t, k, m+1, "", nil, api.ErrArg)
		checks(t, k, m, all[:k+m], true, api.OK)
		checks(t, k, m+1, all, false, api.ErrArg)
		restores(t, k, m+1, 0, pieces(all, upTo(len(all))...), nil, api.ErrArg)
	}
}

// P8.2: any k of the shards make all again, whichever; less do not.
func TestRestoreEachChoice(t *testing.T) {
	r := rand.New(rand.NewSource(2))
	for k := 1; k <= 5; k++ {
		for m := range 5 {
			length := r.Intn(4*k + 1)
			all := encoded(k, m, anyText(r, length))
			for bits := range 1 << (k + m) {
				if some := chosen(k+m, bits); len(some) < k {
					restores(t, k, m, length, pieces(all, some...), nil, api.ErrFew)
				} else {
					restores(t, k, m, length, pieces(all, some...), all, api.OK)
				}
			}
		}
	}
}

// P8.2: of great k and m, too: the first shards, the last ones, any; one less than k is too few.
func TestRestoreOfMany(t *testing.T) {
	r := rand.New(rand.NewSource(3))
	for _, s := range sizes() {
		k, n := s[0], s[0]+s[1]
		for _, length := range []int{0, 1, 500} {
			all := encoded(k, s[1], anyText(r, length))
			for _, some := range [][]int{upTo(k), upTo(n)[n-k:], r.Perm(n)[:k], upTo(n)} {
				restores(t, k, s[1], length, pieces(all, some...), all, api.OK)
				restores(t, k, s[1], length, pieces(all, some[:k-1]...), nil, api.ErrFew)
			}
			restores(t, k, s[1], length, pieces(all), nil, api.ErrFew)
		}
	}
}

// P8.2: texts of any bytes that were no shards of one text: the first k that are there are told as they are, what belongs to them with them, and those beyond as these make them.
func TestRestoreOfAnything(t *testing.T) {
	r := rand.New(rand.NewSource(4))
	for i := range 1000 {
		k, m := r.Intn(6)+1, r.Intn(6)
		if i%100 == 0 {
			k, m = r.Intn(100)+1, r.Intn(155)
		}
		size := r.Intn(10)
		length := max(0, k*size-r.Intn(k)) // a size, k times, or less by less than k
		given := anyTexts(r, k+m, rounded(k, length))
		some := r.Perm(k + m)[:k+r.Intn(m+1)]
		slices.Sort(some)
		got, err := erasure.Restore(k, m, length, pieces(given, some...))
		is(t, "Restore", err, api.OK)
		if len(got) != k+m {
			t.Fatal("Restore:", k, m, length, len(got))
		}
		for _, number := range some[:k] {
			if got[number] != given[number] {
				t.Errorf("Restore(%d, %d, %d) of %v: %q at %d, not %q", k, m, length, some, got[number], number, given[number])
			}
		}
		if !slices.Equal(got[k:], parity(m, got[:k])) {
			t.Errorf("Restore(%d, %d, %d) of %v: %q do not belong together", k, m, length, some, got)
		}
	}
}

// P8.2: the bytes behind the text's end count as the shards have them.
func TestRestoreBeyondTheEnd(t *testing.T) {
	all := append([]string{"ab", "cd"}, parity(2, []string{"ab", "cd"})...)
	restores(t, 2, 2, 3, pieces(all, 2, 3), all, api.OK)
	restores(t, 2, 2, 3, pieces(all, 0, 1), all, api.OK)
	joins(t, 2, 3, all, "abc", api.OK)
}

// P8.2: what is not there may have any text, of any length.
func TestRestoreDoesNotLook(t *testing.T) {
	all := encoded(2, 2, "abcd")
	for _, text := range []string{"", "x", "xy", "xyz", all[0], strings.Repeat("z", 1000)} {
		for gone := range 4 {
			list := pieces(all, upTo(4)...)
			list[gone] = api.Piece{Data: text}
			restores(t, 2, 2, 4, list, all, api.OK)
			list[(gone+1)%4] = api.Piece{Data: text}
			restores(t, 2, 2, 4, list, all, api.OK)
			list[(gone+2)%4] = api.Piece{Data: text}
			restores(t, 2, 2, 4, list, nil, api.ErrFew)
		}
	}
}

// P8.2: Restore refuses too few pieces and too many, and one that is there with another length, wherever it stands; ahead of too few that are there.
func TestRestoreRefused(t *testing.T) {
	for _, s := range [][2]int{{1, 0}, {1, 1}, {2, 1}, {3, 2}, {12, 4}} {
		k, m, n := s[0], s[1], s[0]+s[1]
		all := encoded(k, m, strings.Repeat("x", 2*k))
		for _, many := range []int{0, 1, k - 1, k, n - 1, n + 1, 2 * n, 256, 1000} {
			if many == n {
				continue
			}
			restores(t, k, m, 2*k, make([]api.Piece, many), nil, api.ErrShape)
			list := pieces(slices.Repeat([]string{"xx"}, many), upTo(many)...)
			restores(t, k, m, 2*k, list, nil, api.ErrShape)
		}
		for wrong := range n {
			for _, text := range []string{"", "x", "xxx", strings.Repeat("x", 2*k+1)} {
				list := pieces(all, upTo(n)...)
				list[wrong].Data = text
				restores(t, k, m, 2*k, list, nil, api.ErrShape)
				list = pieces(all)
				list[wrong] = api.Piece{Has: true, Data: text}
				restores(t, k, m, 2*k, list, nil, api.ErrShape)
			}
		}
		// All are of one length, but it is that of a text with another one.
		for _, length := range []int{0, 1, k, 2*k + 1, 3 * k, math.MaxInt} {
			restores(t, k, m, length, pieces(all, upTo(n)...), nil, api.ErrShape)
		}
		for length := k + 1; length <= 2*k; length++ {
			restores(t, k, m, length, pieces(all, upTo(k)...), all, api.OK)
		}
		restores(t, k, m, math.MaxInt, pieces(all), nil, api.ErrFew)
	}
}

// P8.3: Join is the first bytes of the first k, whatever stands behind these.
func TestJoin(t *testing.T) {
	r := rand.New(rand.NewSource(5))
	for k := 1; k <= 12; k++ {
		for length := range 4*k + 1 {
			shards := anyTexts(r, k, rounded(k, length))
			text := strings.Join(shards, "")[:length]
			joins(t, k, length, shards, text, api.OK)
			joins(t, k, length, append(shards, "", "other", shards[0]), text, api.OK)
		}
	}
	shards := anyTexts(r, 1000, 3)
	joins(t, 255, 765, shards, strings.Join(shards[:255], ""), api.OK)
	joins(t, 255, 511, shards, strings.Join(shards[:255], "")[:511], api.OK)
	joins(t, 3, 0, make([]string, 3), "", api.OK)
}

// P8.3: Join refuses less than k shards, and one of the first k with another length, wherever it stands.
func TestJoinRefused(t *testing.T) {
	for _, k := range []int{1, 2, 3, 10, 255} {
		shards := slices.Repeat([]string{"xy"}, k)
		for _, many := range []int{0, 1, k - 1} {
			if many < k {
				joins(t, k, 2*k, shards[:many], "", api.ErrShape)
				joins(t, k, 0, make([]string, many), "", api.ErrShape)
			}
		}
		for wrong := range k {
			for _, text := range []string{"", "x", "xyz"} {
				list := append(slices.Clone(shards), "xy", "xy")
				list[wrong] = text
				joins(t, k, 2*k, list, "", api.ErrShape)
			}
		}
		for _, length := range []int{0, 1, k, 2*k + 1, 3 * k, math.MaxInt32, math.MaxInt} {
			joins(t, k, length, shards, "", api.ErrShape)
		}
	}
}

// P8.3: Check tells whether the last m are what belongs to the first k.
func TestCheck(t *testing.T) {
	r := rand.New(rand.NewSource(6))
	for _, s := range sizes() {
		k, m := s[0], s[1]
		for _, size := range []int{0, 1, 2, 9} {
			data := anyTexts(r, k, size)
			all := append(slices.Clone(data), parity(m, data)...)
			checks(t, k, m, all, true, api.OK)
			if size > 0 && m > 0 {
				checks(t, k, m, append(slices.Clone(data), anyOther(r, all[k:])...), false, api.OK)
				checks(t, k, m, append(anyOther(r, data), all[k:]...), false, api.OK)
			}
			checks(t, k, m, slices.Repeat([]string{strings.Repeat("\x00", size)}, k+m), true, api.OK)
		}
	}
	checks(t, 2, 0, []string{"any", "two"}, true, api.OK)
	checks(t, 2, 1, []string{"ab", "d\x00", "\x9f\x31"}, false, api.OK)
	checks(t, 1, 2, []string{"c\x00", "ab", "\x9f\x31"}, false, api.OK)
}

// anyOther is a list in which one byte of one text is another one.
func anyOther(r *rand.Rand, texts []string) []string {
	list := slices.Clone(texts)
	i := r.Intn(len(list))
	list[i] = turned(list[i], r.Intn(len(list[i])), r.Intn(255)+1)
	return list
}

// turned is a text with some of the bits of one byte turned.
func turned(text string, place, bits int) string {
	bytes := []byte(text)
	bytes[place] ^= byte(bits)
	return string(bytes)
}

// P8.3: Check refuses too few shards, too many, and one of another length, wherever it stands.
func TestCheckRefused(t *testing.T) {
	for _, s := range sizes() {
		k, m, n := s[0], s[1], s[0]+s[1]
		zero := slices.Repeat([]string{"\x00\x00"}, 600)
		for _, many := range []int{0, 1, k - 1, k, m, n - 1, n + 1, 256, 600} {
			if many != n {
				checks(t, k, m, zero[:many], false, api.ErrShape)
				checks(t, k, m, make([]string, many), false, api.ErrShape)
			}
		}
		for _, wrong := range []int{0, 1, k - 1, k, n - 1} {
			for _, text := range []string{"", "\x00", "\x00\x00\x00"} {
				if n == 1 || wrong >= n {
					continue
				}
				list := slices.Clone(zero[:n])
				list[wrong] = text
				checks(t, k, m, list, false, api.ErrShape)
			}
		}
	}
}
