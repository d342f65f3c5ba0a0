package eset

import (
	"errors"
	"maps"
	"slices"
	"strings"

	"storehouse/api"
	"storehouse/erasure"
)

// Get is the value of a key.
func (s *Set) Get(key string) (string, error) {
	if s.closed {
		return "", fault(api.ErrClosed, 0)
	}
	if !isKey(key) {
		return "", fault(api.ErrArg, 0)
	}
	if !s.there(key) {
		return "", fault(api.ErrNone, 0)
	}
	if err := s.power(); err != nil {
		return "", err
	}
	v, err := s.value(key)
	if err != nil {
		return "", err
	}
	text, _ := erasure.Join(s.k, v.length, v.shards) // never refused: these are all shards of one value
	return text, nil
}

// Keys are the keys with a prefix, rising.
func (s *Set) Keys(prefix string) ([]string, error) {
	if s.closed {
		return nil, fault(api.ErrClosed, 0)
	}
	all := map[string]struct{}{}
	for _, d := range s.inside() {
		maps.Copy(all, d.keys)
	}
	var keys []string
	for key := range all {
		if strings.HasPrefix(key, prefix) {
			keys = append(keys, strings.Clone(key))
		}
	}
	slices.Sort(keys)
	return keys, nil
}

// there tells whether there is such a key.
func (s *Set) there(key string) bool {
	return slices.ContainsFunc(s.members, func(d *member) bool { return d.has(key) })
}

// power is ErrPower where a disk that is in the set has none.
func (s *Set) power() error {
	for _, d := range s.inside() {
		if err := d.power(); err != nil {
			return err
		}
	}
	return nil
}

// value is that of a key, with all its shards, as the first k right ones make them.
func (s *Set) value(key string) (value, error) {
	pieces := make([]api.Piece, len(s.members))
	length, right := 0, 0
	for _, d := range s.inside() {
		if right == s.k {
			break
		}
		of, err := d.piece(key)
		if errors.Is(err, api.ErrPower) {
			return value{}, err
		}
		if err != nil || right > 0 && of.length != length {
			continue
		}
		pieces[d.number] = api.Piece{Has: true, Data: of.data}
		length = of.length
		right++
	}
	if right < s.k {
		return value{}, fault(api.ErrFew, 0)
	}
	shards, _ := erasure.Restore(s.k, s.m, length, pieces) // never refused: there are k, of the size that a right one has
	return value{key: key, length: length, shards: shards}, nil
}
