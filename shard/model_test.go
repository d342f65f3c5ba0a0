package shard_test

import (
	"crypto/sha256"
	"encoding/binary"
	"math/rand"
	"strings"
	"testing"

	"storehouse/api"
	"storehouse/shard"
)

// The chapter's numbers, of what a sealed text is made of.
const (
	head  = 36  // bytes ahead of the blocks
	block = 200 // bytes of a block
	step  = 232 // from a block to the next one
)

// u32 is a number as four bytes, the greatest first.
func u32(n int) string { return string(binary.BigEndian.AppendUint32(nil, uint32(n))) }

// sum is the SHA-256 of some texts as a list.
func sum(texts ...string) string {
	list := u32(len(texts))
	for _, text := range texts {
		list += u32(len(text)) + text
	}
	bytes := sha256.Sum256([]byte(list))
	return string(bytes[:])
}

// headOf is what stands ahead of the blocks.
func headOf(name string, length int) string { return u32(length) + sum(name, u32(length)) }

// blockOf is a block with its sum.
func blockOf(name string, length, number int, text string) string {
	return text + sum(name, u32(length), u32(number), text)
}

// sealed is a text as the chapter seals it, of any length.
func sealed(name, text string) string {
	var all strings.Builder
	all.WriteString(headOf(name, len(text)))
	for at := 0; at < len(text); at += block {
		all.WriteString(blockOf(name, len(text), at/block, text[at:min(at+block, len(text))]))
	}
	return all.String()
}

// rot is where the chapter finds rot in what may have been sealed for a name; -1: nowhere, and the text is told.
func rot(name, given string) (text string, at int) {
	if len(given) < head {
		return "", 0
	}
	length := int(binary.BigEndian.Uint32([]byte(given)))
	if length > 10000 || len(given) != grown(length) || given[:head] != headOf(name, length) {
		return "", 0
	}
	for at := head; at < len(given); at += step {
		bytes := given[at : min(at+step, len(given))-32]
		if given[at:min(at+step, len(given))] != blockOf(name, length, (at-head)/step, bytes) {
			return "", at
		}
		text += bytes
	}
	return text, -1
}

// grown is how many bytes a text has when it is sealed, counted.
func grown(length int) int {
	size := head + length
	for ; length > 0; length -= block {
		size += 32
	}
	return size
}

// anyText is so many bytes of all values.
func anyText(r *rand.Rand, length int) string {
	text := make([]byte, length)
	r.Read(text)
	return string(text)
}

// turned is a text with some of the bits of one byte turned.
func turned(text string, place, bits int) string {
	bytes := []byte(text)
	bytes[place] ^= byte(bits)
	return string(bytes)
}

// lengths are those at which a text's blocks may go wrong, up to MaxSealed.
func lengths() []int {
	all := []int{0, 1, 2, 31, 32, 33, 35, 36, 37, 55, 56, 63, 64, 65, 231, 232, 233, 450, 5000, 8000, 8001}
	for blocks := 1; blocks <= 50; blocks++ {
		all = append(all, block*blocks-1, block*blocks)
		if blocks < 50 {
			all = append(all, block*blocks+1)
		}
	}
	return all
}

// names are some that may be, of few bytes and of as many as may be.
func names() []string {
	return []string{"", "!", "n", "t", "d", "da", "d\x00", "name", "\xff\xfe", "name\n", strings.Repeat("k", 219), strings.Repeat("\x00", 220)}
}

// is asks that an error is a fault of this number, at this place, that came from nothing; of OK, that it is none.
func is(t *testing.T, what string, err error, code api.Errno, at int) {
	t.Helper()
	if code == api.OK {
		if err != nil {
			t.Errorf("%s: %v", what, err)
		}
		return
	}
	if f, ok := err.(*api.Fault); !ok || *f != (api.Fault{Code: code, At: at}) {
		t.Errorf("%s: %v, not %v at %d", what, err, code, at)
	}
}

// seals asks that Seal answers a text, or an error and none.
func seals(t *testing.T, name, text, want string, code api.Errno) {
	t.Helper()
	got, err := shard.Seal(name, text)
	is(t, "Seal", err, code, 0)
	if got != want {
		t.Errorf("Seal(%q, %d bytes): %d bytes: %q, not %d: %q", brief(name), len(text), len(got), brief(got), len(want), brief(want))
	}
}

// opens asks that Open answers a text.
func opens(t *testing.T, name, given, want string) {
	t.Helper()
	got, err := shard.Open(name, given)
	is(t, "Open", err, api.OK, 0)
	if got != want {
		t.Errorf("Open(%q, %d bytes): %d bytes: %q, not %d: %q", brief(name), len(given), len(got), brief(got), len(want), brief(want))
	}
}

// refuses asks that Open answers an error at a place, and no text.
func refuses(t *testing.T, name, given string, code api.Errno, at int) {
	t.Helper()
	got, err := shard.Open(name, given)
	is(t, "Open", err, code, at)
	if got != "" {
		t.Errorf("Open(%q, %d bytes): %q with an error", brief(name), len(given), brief(got))
	}
}

// brief is what of a text can be read in a test's complaint.
func brief(text string) string { return text[:min(len(text), 60)] }
