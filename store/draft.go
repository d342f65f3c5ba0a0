package store

import (
	"cmp"
	"maps"
	"slices"
	"strings"

	"storehouse/api"
	"storehouse/frame"
)

// draft is what acts make of a directory: the names that there are then, and of each whose value an act puts the number of that act.
type draft struct {
	acts  []api.Act
	names directory
	putBy map[string]int
}

// mayBe is nil if acts are such as may be asked for.
func mayBe(acts []api.Act) error {
	if len(acts) == 0 || len(acts) > api.MaxActs {
		return fault(api.ErrArg, 0)
	}
	for i, act := range acts {
		if !isAct(act) {
			return fault(api.ErrArg, i)
		}
	}
	return nil
}

// isAct tells whether an act is of a kind, and has what its kind has, and no more.
func isAct(act api.Act) bool {
	if !isName(act.Name) || len(act.Value) > api.MaxValue {
		return false
	}
	switch act.Kind {
	case api.ActMove:
		return isName(act.To) && act.Value == ""
	case api.ActDrop:
		if act.Value != "" {
			return false
		}
		fallthrough
	case api.ActPut:
		return act.To == ""
	}
	return false
}

// draftOf goes through acts, from a directory on, which stays as it is. The values that are put have no place yet.
func draftOf(before directory, acts []api.Act) (draft, error) {
	d := draft{acts: acts, names: maps.Clone(before), putBy: map[string]int{}}
	for i, act := range acts {
		if _, there := d.names[act.Name]; !there && act.Kind != api.ActPut {
			return draft{}, fault(api.ErrNone, i)
		}
		d.do(i)
	}
	return d, nil
}

// do does an act, whose name is there if it must be.
func (d draft) do(i int) {
	act := d.acts[i]
	switch act.Kind {
	case api.ActPut:
		name := strings.Clone(act.Name)
		d.names[name], d.putBy[name] = tail{}, i
	case api.ActMove:
		if act.To == act.Name {
			return
		}
		d.give(act.Name, strings.Clone(act.To))
		fallthrough
	case api.ActDrop:
		delete(d.names, act.Name)
		delete(d.putBy, act.Name)
	}
}

// give lets a name have what another one has, in the place of what it had.
func (d draft) give(from, to string) {
	d.names[to] = d.names[from]
	delete(d.putBy, to)
	if by, fresh := d.putBy[from]; fresh {
		d.putBy[to] = by
	}
}

// fresh is the names whose values the acts put, in the order of these acts.
func (d draft) fresh() []string {
	return slices.SortedFunc(maps.Keys(d.putBy), func(a, b string) int {
		return cmp.Compare(d.putBy[a], d.putBy[b])
	})
}

// value is what was put that a name has.
func (d draft) value(name string) string { return d.acts[d.putBy[name]].Value }

// place gives the values that are put sectors, the first ones of those that are free; false, if these are too few.
func (d draft) place(free []int) bool {
	for _, name := range d.fresh() {
		value := d.value(name)
		want := sectorsFor(len(value))
		if want > len(free) {
			return false
		}
		d.names[name] = tail{length: len(value), sum: frame.Sum(value), runs: runsOf(free[:want])}
		free = free[want:]
	}
	return true
}

// changed is the names of which the journal must tell, rising: those that have another tail than before, or a value that was put, and those that are gone.
func (d draft) changed(before directory) []string {
	var changed []string
	for name, t := range d.names {
		was, there := before[name]
		_, fresh := d.putBy[name]
		if fresh || !there || !t.same(was) {
			changed = append(changed, name)
		}
	}
	for name := range before {
		if _, there := d.names[name]; !there {
			changed = append(changed, name)
		}
	}
	slices.Sort(changed)
	return changed
}
