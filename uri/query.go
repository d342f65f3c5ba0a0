package uri

import (
	"cmp"
	"slices"
	"strings"

	"storehouse/api"
)

// pairs are those that a query tells, in their order; else ErrEscape, and the place.
func pairs(query part) ([]api.Pair, api.Errno, int) {
	var list []api.Pair
	cut := cutter(query)
	for range 1 + strings.Count(query.text, "&") {
		coded := cut(is('&'))
		if coded.text == "" {
			continue
		}
		told, e, at := pair(coded)
		if e != api.OK {
			return nil, e, at
		}
		list = append(list, told)
	}
	return list, api.OK, 0
}

// pair is the one that a query's part tells; else ErrEscape, and the place.
func pair(coded part) (api.Pair, api.Errno, int) {
	cut := cutter(coded)
	name, e, at := decode(cut(is('=')))
	if e != api.OK {
		return api.Pair{}, e, at
	}
	value, e, at := decode(cut(never))
	if e != api.OK {
		return api.Pair{}, e, at
	}
	return api.Pair{Name: name, Value: value}, api.OK, 0
}

// encoded are pairs in escapes.
func encoded(l []api.Pair) []api.Pair {
	list := make([]api.Pair, 0, len(l))
	for _, p := range l {
		list = append(list, api.Pair{Name: Encode(p.Name, true), Value: Encode(p.Value, true)})
	}
	return list
}

// sorted are pairs by their names, those of one name by their values.
func sorted(l []api.Pair) []api.Pair {
	return slices.SortedFunc(slices.Values(l), func(a, b api.Pair) int {
		return cmp.Or(strings.Compare(a.Name, b.Name), strings.Compare(a.Value, b.Value))
	})
}
