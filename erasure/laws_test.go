package erasure_test

import (
	"math/rand"
	"slices"
	"testing"

	"storehouse/api"
	"storehouse/erasure"
)

// shards is Encode of what may be.
func shards(t *testing.T, k, m int, text string) []string {
	t.Helper()
	all, err := erasure.Encode(k, m, text)
	is(t, "Encode", err, api.OK)
	return all
}

// P8.4: of Encode of a text Check is true, Join is the text, and each shard has as many bytes as Size tells.
func TestThereAndBack(t *testing.T) {
	r := rand.New(rand.NewSource(7))
	for _, s := range sizes() {
		for _, length := range []int{0, 1, 2, s[0] - 1, s[0], s[0] + 1, 1000} {
			text := anyText(r, length)
			all := shards(t, s[0], s[1], text)
			checks(t, s[0], s[1], all, true, api.OK)
			joins(t, s[0], length, all, text, api.OK)
			size, err := erasure.Size(s[0], length)
			is(t, "Size", err, api.OK)
			for i, shard := range all {
				if len(shard) != size {
					t.Error("a shard's size:", s, length, i, len(shard), size)
				}
			}
		}
	}
}

// P8.4: Restore of any of the shards, if k are there, is Encode; the text is joined of it again.
func TestRestoreOfEncode(t *testing.T) {
	r := rand.New(rand.NewSource(8))
	for range 1000 {
		k, m := r.Intn(10)+1, r.Intn(10)
		text := anyText(r, r.Intn(100))
		all := shards(t, k, m, text)
		some := r.Perm(k + m)[:k+r.Intn(m+1)]
		restores(t, k, m, len(text), pieces(all, some...), all, api.OK)
		got, _ := erasure.Restore(k, m, len(text), pieces(all, some...))
		joins(t, k, len(text), got, text, api.OK)
	}
}

// P8.4: what Restore tells Check finds true, whatever the pieces were, and what Restore tells of that is the same again.
func TestCheckOfRestore(t *testing.T) {
	r := rand.New(rand.NewSource(9))
	for range 1000 {
		k, m := r.Intn(8)+1, r.Intn(8)
		size := r.Intn(6)
		some := r.Perm(k + m)[:k+r.Intn(m+1)]
		got, err := erasure.Restore(k, m, k*size, pieces(anyTexts(r, k+m, size), some...))
		is(t, "Restore", err, api.OK)
		checks(t, k, m, got, true, api.OK)
		restores(t, k, m, k*size, pieces(got, r.Perm(k + m)[:k]...), got, api.OK)
	}
}

// P8.4: one byte of one shard that is another one is found, whichever it is and whatever it is then; without more shards nothing can be found.
func TestOneByteThatIsAnother(t *testing.T) {
	r := rand.New(rand.NewSource(10))
	for _, s := range [][2]int{{1, 1}, {2, 1}, {1, 3}, {3, 2}, {4, 0}} {
		all := shards(t, s[0], s[1], anyText(r, 3*s[0]-1))
		for i := range all {
			for place := range all[i] {
				for bits := 1; bits < 256; bits++ {
					list := slices.Clone(all)
					list[i] = turned(all[i], place, bits)
					checks(t, s[0], s[1], list, s[1] == 0, api.OK)
				}
			}
		}
	}
	for _, s := range [][2]int{{254, 1}, {1, 254}, {128, 127}} {
		all := shards(t, s[0], s[1], anyText(r, 500))
		for i := range all {
			list := slices.Clone(all)
			list[i] = turned(all[i], r.Intn(len(all[i])), r.Intn(255)+1)
			checks(t, s[0], s[1], list, false, api.OK)
		}
	}
}

// P8.2, P8.4: a piece that is not right spoils what is told only if it is one of the first k that are there.
func TestPieceThatIsNotRight(t *testing.T) {
	text := "what is told hangs on the first k alone"
	all := shards(t, 3, 3, text)
	for wrong := range 6 {
		list := pieces(all, upTo(6)...)
		list[wrong].Data = turned(all[wrong], 5, 1)
		got, err := erasure.Restore(3, 3, len(text), list)
		is(t, "Restore", err, api.OK)
		if slices.Equal(got, all) != (wrong >= 3) {
			t.Errorf("with %d not right: %q", wrong, got)
		}
		list[wrong].Has = false
		restores(t, 3, 3, len(text), list, all, api.OK)
	}
}
