package eset

import (
	"errors"

	"storehouse/api"
)

// Look tells what is wrong with a disk's shard of a key (nil: nothing).
func (s *Set) Look(i int, key string) error {
	if s.closed {
		return fault(api.ErrClosed, 0)
	}
	if !s.numbered(i) || !isKey(key) {
		return fault(api.ErrArg, 0)
	}
	if !s.there(key) {
		return fault(api.ErrNone, 0)
	}
	d := s.members[i]
	if d.disk.Dead() {
		return fault(api.ErrDead, 0)
	}
	if !d.in() {
		return fault(api.ErrBlank, 0)
	}
	if err := d.power(); err != nil {
		return err
	}
	_, err := d.piece(key)
	return err
}

// Join makes a disk part of the set.
func (s *Set) Join(i int) error {
	if s.closed {
		return fault(api.ErrClosed, 0)
	}
	if !s.numbered(i) {
		return fault(api.ErrArg, 0)
	}
	d := s.members[i]
	if _, err := d.disk.Read(0); err != nil {
		return wrapped(err)
	}
	if d.in() {
		return nil
	}
	err := d.lay(s.gen)
	s.closed = err != nil
	return err
}

// Lay lays a key's shard on a disk anew.
func (s *Set) Lay(i int, key string) error {
	err := s.Look(i, key)
	if err == nil || !canBeLaid(err) {
		return err
	}
	v, err := s.value(key)
	if err != nil {
		return err
	}
	err = s.members[i].keep(v)
	s.closed = err != nil && !errors.Is(err, api.ErrFull)
	return err
}

// canBeLaid tells whether what Look told is mended by laying the shard anew.
func canBeLaid(err error) bool {
	var f *api.Fault
	return errors.As(err, &f) && (f.Code == api.ErrRot || f.Code == api.ErrNone && f.At == missing)
}
