package samples_test

import (
	"slices"
	"testing"

	"storehouse/samples"
)

// Every is all texts, once each, and no more than are asked for.
func TestEvery(t *testing.T) {
	for _, c := range []struct {
		bytes string
		most  int
		want  []string
	}{
		{"ab", 2, []string{"", "a", "aa", "ab", "b", "ba", "bb"}},
		{"\xff", 3, []string{"", "\xff", "\xff\xff", "\xff\xff\xff"}},
		{"ab", 0, []string{""}},
		{"ab", -1, []string{""}},
		{"", 5, []string{""}},
	} {
		if got := slices.Collect(samples.Every(c.bytes, c.most)); !slices.Equal(got, c.want) {
			t.Errorf("%q, %d: %q", c.bytes, c.most, got)
		}
	}
	var some []string
	for s := range samples.Every("ab", 9) {
		some = append(some, s)
		if len(some) == 4 {
			break
		}
	}
	if !slices.Equal(some, []string{"", "a", "aa", "aaa"}) {
		t.Errorf("%q", some)
	}
}
