// Package samples is what to try a layer on, texts and losses; the tests of several layers take it from here.
package samples

import "iter"

// Every is each text of these bytes that has no more than most of them, each ahead of those that go on with it.
func Every(bytes string, most int) iter.Seq[string] {
	return func(yield func(string) bool) { grow("", bytes, most, yield) }
}

// grow hands on s, and each text that goes on with it, until no more are wanted.
func grow(s, bytes string, most int, yield func(string) bool) bool {
	if !yield(s) {
		return false
	}
	for i := 0; i < len(bytes) && len(s) < most; i++ {
		if !grow(s+bytes[i:i+1], bytes, most, yield) {
			return false
		}
	}
	return true
}
