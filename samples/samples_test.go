package samples_test

import (
	"slices"
	"testing"

	"storehouse/samples"
)

// Every is all texts, once each, and no more than are asked for.
func TestEvery(t *testing.T) {
	for _, c := range []struct {
		bytes string
		most  int
		want  []string
	}{
		{"ab", 2, []string{"", "a", "aa", "ab", "b", "ba", "bb"}},
		{"\xff", 3, []string{"", "\xff", "\xff\xff", "\xff\xff\xff"}},
		{"ab", 0, []string{""}},
		{"ab", -1, []string{""}},
		{"", 5, []string{""}},
	} {
		if got := slices.Collect(samples.Every(c.bytes, c.most)); !slices.Equal(got, c.want) {
			t.Errorf("%q, %d: %q", c.bytes, c.most, got)
		}
	}
	var some []string
	for s := range samples.Every("ab", 9) {
		some = append(some, s)
		if len(some) == 4 {
			break
		}
	}
	if !slices.Equal(some, []string{"", "a", "aa", "aaa"}) {
		t.Errorf("%q", some)
	}
}

// Losses is all choices, where they are few; else some of each kind, each of as many writes.
func TestLosses(t *testing.T) {
	two := [][]bool{{false, false}, {true, false}, {false, true}, {true, true}}
	if got := samples.Losses(2); !slices.EqualFunc(got, two, slices.Equal) {
		t.Error(got)
	}
	for writes, many := range []int{1, 2, 4, 8, 16, 16, 19} {
		all := samples.Losses(writes)
		if len(all) != many {
			t.Error(writes, len(all))
		}
		for _, keep := range all {
			if len(keep) != writes {
				t.Error(writes, keep)
			}
		}
	}
	has := func(want ...bool) bool {
		return slices.ContainsFunc(samples.Losses(5), func(keep []bool) bool { return slices.Equal(keep, want) })
	}
	if !has(false, false, false, false, false) || !has(true, true, true, false, false) || !has(false, true, false, false, false) || !has(true, false, true, true, true) || !has(true, true, true, true, true) {
		t.Error(samples.Losses(5))
	}
}
