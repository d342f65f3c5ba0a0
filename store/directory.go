package store

import (
	"maps"
	"slices"

	"storehouse/api"
	"storehouse/frame"
)

// The two kinds of records: a whole directory, and what changes of one.
const (
	whole = "all"
	part  = "some"
)

// directory is the names that there are, and of each the tail of its value.
type directory map[string]tail

// isName tells whether this may be a name.
func isName(name string) bool { return len(name) >= 1 && len(name) <= api.MaxName }

// rising is the names, in the order of their bytes.
func (d directory) rising() []string { return slices.Sorted(maps.Keys(d)) }

// right tells whether a store with these data may have it.
func (d directory) right(data api.Extent) bool {
	for name, t := range d {
		if !isName(name) || !t.right(data) {
			return false
		}
	}
	for _, values := range d.uses(data) {
		if values > 1 {
			return false
		}
	}
	return true
}

// uses is how many values have each sector of the data. All their runs are within these.
func (d directory) uses(data api.Extent) []int {
	uses := make([]int, data.Many)
	for _, t := range d {
		for at := range each(t.runs) {
			uses[at-data.From]++
		}
	}
	return uses
}

// free is the sectors of the data that no value has, rising.
func (d directory) free(data api.Extent) []int {
	var free []int
	for i, values := range d.uses(data) {
		if values == 0 {
			free = append(free, data.From+i)
		}
	}
	return free
}

// all is the record of the directory as a whole.
func (d directory) all() (string, error) { return d.record(whole, d.rising()) }

// some is the record of names that changed, as the directory has them now; those that it does not have are gone.
func (d directory) some(changed []string) (string, error) { return d.record(part, changed) }

// record is one of some names, rising.
func (d directory) record(kind string, names []string) (string, error) {
	texts := []string{kind}
	for _, name := range names {
		text, err := d.entry(name)
		if err != nil {
			return "", err
		}
		texts = append(texts, text)
	}
	return frame.List(texts...)
}

// entry is what a record tells of a name: its tail, or, of one that is not there, no more than itself.
func (d directory) entry(name string) (string, error) {
	t, there := d[name]
	if !there {
		return frame.List(name)
	}
	text, err := t.text()
	if err != nil {
		return "", err
	}
	return frame.List(name, text)
}

// follow makes of the directory what a record says; false, if it has neither form.
func (d directory) follow(record string) bool {
	texts, err := frame.Split(record)
	if err != nil || len(texts) == 0 {
		return false
	}
	switch kind := texts[0]; kind {
	case whole:
		clear(d)
		fallthrough
	case part:
		return d.change(texts[1:], kind == part)
	}
	return false
}

// change makes of the directory what a record's entries say; false, if one is none, or tells of a name that it is gone where none may be, or the names do not rise.
func (d directory) change(entries []string, mayGo bool) bool {
	last := ""
	for i, text := range entries {
		entry, err := frame.Split(text)
		if err != nil || len(entry) == 0 || i > 0 && entry[0] <= last {
			return false
		}
		last = entry[0]
		switch {
		case len(entry) == 1 && mayGo:
			delete(d, last)
		case len(entry) == 2:
			t, ok := tailOf(entry[1])
			if !ok {
				return false
			}
			d[last] = t
		default:
			return false
		}
	}
	return true
}
