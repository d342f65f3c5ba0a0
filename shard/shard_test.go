package shard_test

import (
	"encoding/hex"
	"math"
	"math/rand"
	"strings"
	"testing"

	"storehouse/api"
	"storehouse/shard"
)

// The chapter's examples.
func TestExamples(t *testing.T) {
	for length, want := range map[int]int{0: 36, 1: 69, 200: 268, 201: 301, -1: 0} {
		if got := shard.Size(length); got != want {
			t.Errorf("Size(%d): %d", length, got)
		}
	}
	text := strings.Repeat("text ", 90)
	given, err := shard.Seal("name", text)
	is(t, "Seal", err, api.OK, 0)
	refuses(t, "other", given, api.ErrRot, 0)
	refuses(t, "name", given+"x", api.ErrRot, 0)
	refuses(t, "name", turned(given, 268+49, 1), api.ErrRot, 268)
	opens(t, "name", given, text)
}

// P9.1: texts that were sealed elsewhere, byte by byte.
func TestSealedElsewhere(t *testing.T) {
	for _, c := range []struct{ name, text, head, blocks string }{
		{"", "", "000000007c6c2bea85b794c57133333e436379e1e7f961b30066f99907b357c72cde3fc2", ""},
		{"name", "abc", "000000033b9328dbd8df56c55d81db56e47c981cee79032469296680d330cf1d3c6403ca", "61626338e0281fd3f6e605aac775b22ec2fdc09081f4f5b5e648e5b163755eb38e9877"},
	} {
		want, err := hex.DecodeString(c.head + c.blocks)
		is(t, "hex", err, api.OK, 0)
		seals(t, c.name, c.text, string(want), api.OK)
		opens(t, c.name, string(want), c.text)
	}
}

// P9.1: Size of each length that may be, and 0 of others.
func TestSize(t *testing.T) {
	for length := range api.MaxSealed + 1 {
		if got := shard.Size(length); got != grown(length) {
			t.Errorf("Size(%d): %d, not %d", length, got, grown(length))
		}
	}
	for _, length := range []int{math.MinInt, math.MinInt + 1, math.MinInt32, -10000, -200, -36, -2, -1, 10001, 10002, 10200, 1 << 32, 1<<32 + 1, math.MaxInt32, math.MaxUint32, math.MaxInt - 199, math.MaxInt - 1, math.MaxInt} {
		if got := shard.Size(length); got != 0 {
			t.Errorf("Size(%d): %d", length, got)
		}
	}
}

// P9.1: Seal, and Size, of texts whose last block is whole, begins, or is short; for names of all lengths.
func TestSeal(t *testing.T) {
	r := rand.New(rand.NewSource(1))
	for _, length := range lengths() {
		for _, text := range []string{anyText(r, length), strings.Repeat("\x00", length)} {
			seals(t, "name", text, sealed("name", text), api.OK)
			if got := shard.Size(length); got != len(sealed("name", text)) {
				t.Errorf("Size(%d): %d", length, got)
			}
		}
	}
	for length := range 3*block + 2 {
		text := anyText(r, length)
		seals(t, "d", text, sealed("d", text), api.OK)
	}
	for length := range api.MaxName + 1 {
		name := anyText(r, length)
		seals(t, name, "", sealed(name, ""), api.OK)
		seals(t, name, name+name, sealed(name, name+name), api.OK)
	}
	for _, name := range names() {
		text := anyText(r, api.MaxSealed)
		seals(t, name, text, sealed(name, text), api.OK)
	}
}

// P9.1: Seal refuses a name or a text that is too long, or both.
func TestSealRefused(t *testing.T) {
	for _, much := range []int{1, 2, 200, 1000, 1 << 20} {
		name, text := strings.Repeat("n", api.MaxName+much), strings.Repeat("t", api.MaxSealed+much)
		for _, short := range []string{"", "x", strings.Repeat("x", 220)} {
			seals(t, short, text, "", api.ErrArg)
			seals(t, name, short, "", api.ErrArg)
		}
		seals(t, name, text[:api.MaxSealed], "", api.ErrArg)
		seals(t, name, text, "", api.ErrArg)
	}
}

// P9.2: Open tells what was sealed, of texts and names of all lengths.
func TestOpen(t *testing.T) {
	r := rand.New(rand.NewSource(2))
	for _, length := range lengths() {
		text := anyText(r, length)
		opens(t, "name", sealed("name", text), text)
	}
	for length := range 3*block + 2 {
		text := anyText(r, length)
		opens(t, "d", sealed("d", text), text)
	}
	for length := range api.MaxName + 1 {
		name := anyText(r, length)
		opens(t, name, sealed(name, ""), "")
		opens(t, name, sealed(name, name+name), name+name)
	}
}

// P9.2: a name that is too long is refused ahead of all else, though it was sealed for it.
func TestOpenForALongName(t *testing.T) {
	for _, much := range []int{1, 2, 200, 1 << 20} {
		name := strings.Repeat("n", api.MaxName+much)
		for _, given := range []string{"", "x", sealed(name, ""), sealed(name, "text"), sealed("name", "text"), turned(sealed(name, "text"), 40, 1)} {
			refuses(t, name, given, api.ErrArg, 0)
		}
	}
}

// P9.2: what was sealed for another name is refused at 0.
func TestOpenForAnotherName(t *testing.T) {
	for _, text := range []string{"", "x", strings.Repeat("text", 100)} {
		for _, name := range names() {
			given := sealed(name, text)
			for _, other := range names() {
				if other == name {
					opens(t, other, given, text)
				} else {
					refuses(t, other, given, api.ErrRot, 0)
				}
			}
		}
	}
	// A name's end can't be taken for the beginning of what its sums are of behind it, nor the other way round.
	refuses(t, "name"+u32(4)+u32(5), sealed("name", "12345"), api.ErrRot, 0)
	refuses(t, "name", sealed("name"+u32(4)+u32(5), "12345"), api.ErrRot, 0)
}

// P9.2: a text that is cut, or has more behind it, is refused at 0, however much, also where it is cut behind a block.
func TestOpenOfAnotherSize(t *testing.T) {
	for _, length := range []int{0, 1, 199, 200, 201, 450, 600} {
		text := strings.Repeat("t", length)
		given := sealed("name", text)
		for many := range given {
			refuses(t, "name", given[:many], api.ErrRot, 0)
			refuses(t, "name", given[len(given)-many:], api.ErrRot, 0)
		}
		for _, more := range []string{"x", "\x00", strings.Repeat("x", 32), strings.Repeat("x", 33), strings.Repeat("x", 232), blockOf("name", length, length/block, "t"), given} {
			refuses(t, "name", given+more, api.ErrRot, 0)
			refuses(t, "name", more+given, api.ErrRot, 0)
		}
	}
	for many := range head + 1 {
		refuses(t, "name", strings.Repeat("\x00", many), api.ErrRot, 0)
	}
}

// P9.2: a length above MaxSealed is refused at 0, though all sums are right, and there are as many bytes as it would have.
func TestOpenOfALongText(t *testing.T) {
	for _, length := range []int{10001, 10002, 10199, 10200, 10201, 12000, 60000} {
		refuses(t, "name", sealed("name", strings.Repeat("t", length)), api.ErrRot, 0)
	}
	for _, length := range []int{10001, 1 << 16, 1 << 24, math.MaxInt32, math.MaxInt32 + 1, math.MaxUint32 - 1, math.MaxUint32} {
		for _, behind := range []string{"", "x", blockOf("name", length, 0, strings.Repeat("t", 200))} {
			refuses(t, "name", headOf("name", length)+behind, api.ErrRot, 0)
		}
	}
}

// P9.2: a length that is another one than there are bytes is refused at 0, though all sums are right for it.
func TestOpenOfAnotherLength(t *testing.T) {
	text := strings.Repeat("t", 450)
	for length := range api.MaxSealed + 1 {
		given := headOf("name", length) + blockOf("name", length, 0, text[:200]) + blockOf("name", length, 1, text[:200]) + blockOf("name", length, 2, text[:50])
		if length == 450 {
			opens(t, "name", given, text)
		} else {
			refuses(t, "name", given, api.ErrRot, 0)
		}
	}
	// As many bytes as a text of 170 has, though its blocks are not as they are cut.
	refuses(t, "name", headOf("name", 170)+blockOf("name", 170, 0, text[:100])+blockOf("name", 170, 1, text[:38]), api.ErrRot, 36)
}

// P9.2: each bit that is turned, alone, shows: in the head at 0, in a block or its sum where that block begins.
func TestTurnedBits(t *testing.T) {
	r := rand.New(rand.NewSource(3))
	for _, length := range []int{0, 1, 5, 199, 200, 201, 450, 600} {
		given := sealed("name", anyText(r, length))
		for place := range given {
			for bit := range 8 {
				refuses(t, "name", turned(given, place, 1<<bit), api.ErrRot, begins(place))
			}
		}
	}
	given := sealed("", anyText(r, api.MaxSealed))
	for place := range given {
		refuses(t, "", turned(given, place, 1<<r.Intn(8)), api.ErrRot, begins(place))
	}
}

// begins is where what a place belongs to begins: the head at 0, or a block.
func begins(place int) int {
	if place < head {
		return 0
	}
	return place - (place-head)%step
}

// P9.2: each value that is another one than was sealed, of each byte.
func TestOtherBytes(t *testing.T) {
	given := sealed("name", "a text")
	for place := range given {
		for bits := 1; bits < 256; bits++ {
			refuses(t, "name", turned(given, place, bits), api.ErrRot, begins(place))
		}
	}
}

// P9.2: of several blocks that are not right the first one is told, and the head ahead of all.
func TestFirstOfSeveral(t *testing.T) {
	r := rand.New(rand.NewSource(4))
	for range 1000 {
		given := sealed("name", anyText(r, 200*r.Intn(6)+r.Intn(200)+1))
		first, second := r.Intn(len(given)), r.Intn(len(given))
		if first == second {
			continue
		}
		both := turned(turned(given, first, r.Intn(255)+1), second, r.Intn(255)+1)
		refuses(t, "name", both, api.ErrRot, begins(min(first, second)))
	}
	given := sealed("name", strings.Repeat("t", 10000))
	for number := range 50 {
		refuses(t, "name", given[:head+number*step]+strings.Repeat("x", (50-number)*step), api.ErrRot, head+number*step)
	}
}

// P9.2: a block with its sum that was sealed for another place, name or length is not right, wherever it stands.
func TestBlockFromElsewhere(t *testing.T) {
	text := strings.Repeat("t", 1000) // of blocks that are the same
	given := sealed("name", text)
	for number := range 5 {
		at := head + number*step
		for other := range 5 {
			opensUnless(t, given[:at]+given[head+other*step:][:step]+given[at+step:], text, other != number, at)
		}
		for _, other := range []string{blockOf("nome", 1000, number, text[:200]), blockOf("", 1000, number, text[:200]), blockOf("name", 999, number, text[:200]), blockOf("name", 1001, number, text[:200]), blockOf("name", 0, number, text[:200])} {
			refuses(t, "name", given[:at]+other+given[at+step:], api.ErrRot, at)
		}
		bare := sum(text[:200])
		refuses(t, "name", given[:at]+text[:200]+bare+given[at+step:], api.ErrRot, at)
	}
}

// opensUnless asks that what is sealed for name opens, or, if it is not right, is refused at a place.
func opensUnless(t *testing.T, given, want string, wrong bool, at int) {
	t.Helper()
	if wrong {
		refuses(t, "name", given, api.ErrRot, at)
	} else {
		opens(t, "name", given, want)
	}
}

// P9.2: a head is right for its own name and length alone.
func TestHeadFromElsewhere(t *testing.T) {
	given := sealed("name", strings.Repeat("t", 300))
	for _, other := range []string{headOf("nome", 300), headOf("", 300), headOf("name", 299), headOf("name", 301), u32(300) + sum("name", u32(299)), u32(300) + sum("name"), u32(300) + sum("name", u32(300), ""), u32(300) + sum("name"+u32(300)), strings.Repeat("\x00", head)} {
		refuses(t, "name", other+given[head:], api.ErrRot, 0)
	}
	opens(t, "name", headOf("name", 300)+given[head:], strings.Repeat("t", 300))
}

// P9.2: texts that were cut, grown, mixed and turned at random, against the chapter word by word.
func TestOpenOfMany(t *testing.T) {
	r := rand.New(rand.NewSource(5))
	opened := 0
	for range 5000 {
		given := mixed(r)
		text, at := rot("name", given)
		if at < 0 {
			opened++
			opens(t, "name", given, text)
		} else {
			refuses(t, "name", given, api.ErrRot, at)
		}
	}
	if opened < 500 || opened > 4500 {
		t.Error("of 5000 texts these opened:", opened)
	}
}

// mixed is a sealed text in which some blocks may be those of another, and some of which may be lost, or turned.
func mixed(r *rand.Rand) string {
	length := r.Intn(1000)
	given, other := sealed("name", anyText(r, length)), sealed("name", anyText(r, length-r.Intn(2)*r.Intn(length+1)))
	if r.Intn(2) > 0 {
		at := begins(r.Intn(len(given)))
		if from := begins(r.Intn(len(other))); len(other) >= from+step && len(given) >= at+step {
			given = given[:at] + other[from:from+step] + given[at+step:]
		}
	}
	switch r.Intn(4) {
	case 0:
		given = turned(given, r.Intn(len(given)), r.Intn(256))
	case 1:
		given = given[:len(given)-r.Intn(2)*r.Intn(len(given))]
	}
	return given
}
