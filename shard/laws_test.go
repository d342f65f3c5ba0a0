package shard_test

import (
	"math/rand"
	"strings"
	"testing"

	"storehouse/api"
	"storehouse/shard"
)

// again asks that a text, sealed for a name and opened, is itself, and tells what it was in between.
func again(t *testing.T, name, text string) string {
	t.Helper()
	given, err := shard.Seal(name, text)
	is(t, "Seal", err, api.OK, 0)
	if len(given) != shard.Size(len(text)) {
		t.Errorf("of %d bytes: %d, not %d", len(text), len(given), shard.Size(len(text)))
	}
	opens(t, name, given, text)
	return given
}

// P9.3: Open of Seal is the text.
func TestThereAndBack(t *testing.T) {
	r := rand.New(rand.NewSource(6))
	for _, length := range lengths() {
		again(t, "name", anyText(r, length))
	}
	for _, name := range names() {
		again(t, name, name)
		again(t, name, strings.Repeat(name, 40))
		again(t, name, anyText(r, api.MaxSealed))
	}
	for range 1000 {
		again(t, anyText(r, r.Intn(api.MaxName+1)), anyText(r, r.Intn(2000)))
	}
}

// P9.3: a sealed text may be sealed itself, as long as it is short enough.
func TestSealedAgain(t *testing.T) {
	text := ""
	for len(text) <= api.MaxSealed {
		text = again(t, "name", text)
	}
	seals(t, "name", text, "", api.ErrArg)
}

// P9.3: what Open tells, sealed, is what it was told, also where that was put together of blocks of several texts.
func TestBackAndThere(t *testing.T) {
	r := rand.New(rand.NewSource(7))
	opened := 0
	for range 2000 {
		given := mixed(r)
		text, err := shard.Open("name", given)
		if err != nil {
			is(t, "Open", err, api.ErrRot, err.(*api.Fault).At)
			continue
		}
		opened++
		seals(t, "name", text, given, api.OK)
	}
	if opened < 200 {
		t.Error("of 2000 texts these opened:", opened)
	}
	one, two := sealed("name", strings.Repeat("a", 500)), sealed("name", strings.Repeat("b", 500))
	both := one[:head+step] + two[head+step:head+2*step] + one[head+2*step:]
	text := strings.Repeat("a", 200) + strings.Repeat("b", 200) + strings.Repeat("a", 100)
	opens(t, "name", both, text)
	seals(t, "name", text, both, api.OK)
}

// P9.3: no two texts, and no two names, have the same sealed text.
func TestSealsDiffer(t *testing.T) {
	r := rand.New(rand.NewSource(8))
	seen := map[string]bool{}
	texts := []string{"", "\x00", "\x00\x00", "a", "b", "ab"}
	for _, length := range []int{199, 200, 201, 400, 401} {
		texts = append(texts, strings.Repeat("\x00", length), anyText(r, length))
	}
	for _, name := range names() {
		for _, text := range texts {
			given := again(t, name, text)
			if seen[given] {
				t.Errorf("twice: %q, %q", name, brief(text))
			}
			seen[given] = true
		}
	}
}
