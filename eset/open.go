package eset

import (
	"errors"
	"slices"

	"storehouse/api"
	"storehouse/disk"
	"storehouse/store"
)

// noCard is the generation of a disk that has no card of the set.
const noCard = -1

// Open finds the set that is there.
func Open(disks []*disk.Disk, k, m int) (*Set, error) {
	s, err := setOf(disks, k, m)
	if err != nil {
		return nil, err
	}
	gens, err := s.find()
	if err != nil {
		return nil, err
	}
	s.gen = slices.Max(gens)
	if s.gen == noCard {
		return nil, fault(api.ErrBlank, 0)
	}
	for i, d := range s.members {
		if err := d.settle(gens[i], s.gen); err != nil {
			return nil, err
		}
	}
	if len(s.inside()) < s.k {
		return nil, fault(api.ErrQuorum, 0)
	}
	return s, nil
}

// find is the generations of the disks' cards; those that have one are in the set then.
func (s *Set) find() ([]int, error) {
	var gens []int
	for _, d := range s.members {
		gen, err := d.find()
		if err != nil {
			return nil, err
		}
		gens = append(gens, gen)
	}
	return gens, nil
}

// find is the generation of the disk's card, if it has a store and a card; then it is in the set.
func (d *member) find() (int, error) {
	if err := d.power(); err != nil {
		return noCard, err
	}
	s, err := store.Open(d.disk)
	switch {
	case errors.Is(err, api.ErrPower): // Open may have had something to flush
		return noCard, wrapped(err)
	case err != nil:
		return noCard, nil
	}
	text, err := s.Get(cardName)
	if err != nil {
		return noCard, nil
	}
	gen, ok := d.genIn(text)
	if !ok {
		return noCard, nil
	}
	d.enter(s)
	return gen, nil
}

// settle brings a disk whose card has gen to where the set is, at the newest generation; one that can't be brought there is out.
func (d *member) settle(gen, newest int) error {
	switch gen {
	case noCard:
		return nil
	case newest:
		return d.abandon()
	case newest - 1:
		if p, ok := d.begun(newest); ok {
			return d.finish(p)
		}
	}
	d.leave()
	return nil
}

// begun is the plan that makes a generation, as far as the second phase asks for it, if the disk has had the first one. What can't be read counts as not there: power that is gone can't be why, as it goes at an act alone, and the act has answered that.
func (d *member) begun(gen int) (plan, bool) {
	next, err := d.store.Get(nextName)
	if err != nil || next != d.card(gen) {
		return plan{}, false
	}
	text, err := d.store.Get(goneName)
	if err != nil {
		return plan{}, false
	}
	texts, err := opened(goneName, text)
	if err != nil || len(texts) == 0 || texts[0] != word(gen) {
		return plan{}, false
	}
	return plan{gen: gen, gone: texts[1:]}, true
}
