package eset

import (
	"cmp"
	"errors"
	"maps"
	"slices"

	"storehouse/api"
	"storehouse/erasure"
)

// value is what there is under a key: its length, and its shards, one for each disk.
type value struct {
	key    string
	length int
	shards []string
}

// plan is what a Commit does: the generation that it makes, the values that there will be then, and the keys that will be gone, by their keys rising.
type plan struct {
	gen    int
	values []value
	gone   []string
}

// Commit makes some changes, all of them or none.
func (s *Set) Commit(changes []api.Change) error {
	if s.closed {
		return fault(api.ErrClosed, 0)
	}
	if !mayBe(changes) || s.gen == lastGen {
		return fault(api.ErrArg, 0)
	}
	if len(s.inside()) < s.k {
		return fault(api.ErrQuorum, 0)
	}
	if err := s.power(); err != nil {
		return err
	}
	p := s.planOf(changes)
	if err := s.carry(p); err != nil {
		return err
	}
	s.gen = p.gen
	return nil
}

// mayBe tells whether changes are such as may be asked for.
func mayBe(changes []api.Change) bool {
	for _, c := range changes {
		if !isKey(c.Key) || len(c.Value) > api.MaxSetValue || c.Gone && c.Value != "" {
			return false
		}
	}
	return len(changes) >= 1 && len(changes) <= api.MaxChanges
}

// planOf is how changes are made: of those of one key the last one. Encode is never refused, as the shape fits.
func (s *Set) planOf(changes []api.Change) plan {
	last := map[string]api.Change{}
	for _, c := range changes {
		last[c.Key] = c
	}
	p := plan{gen: s.gen + 1}
	for _, key := range slices.Sorted(maps.Keys(last)) {
		if last[key].Gone {
			p.gone = append(p.gone, key)
			continue
		}
		text := last[key].Value
		shards, _ := erasure.Encode(s.k, s.m, text)
		p.values = append(p.values, value{key: key, length: len(text), shards: shards})
	}
	return p
}

// goneText is what a disk has of the keys that will be gone.
func (p plan) goneText() string {
	return sealed(goneName, slices.Concat([]string{word(p.gen)}, p.gone)...)
}

// carry does both phases of a plan, each on all disks that are in the set: none begins the second one ahead of the last that ends the first one.
func (s *Set) carry(p plan) error {
	inside := s.inside()
	var err error
phases:
	for _, phase := range []func(*member, plan) error{(*member).begin, (*member).finish} {
		for _, d := range inside {
			if err = phase(d, p); err != nil {
				break phases
			}
		}
	}
	if errors.Is(err, api.ErrFull) { // the first phase's: the second one puts nothing
		return cmp.Or(s.abandon(inside), err)
	}
	s.closed = err != nil
	return err
}

// abandon drops what is under way on some disks.
func (s *Set) abandon(disks []*member) error {
	for _, d := range disks {
		if err := d.abandon(); err != nil {
			s.closed = true
			return err
		}
	}
	return nil
}
