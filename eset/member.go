package eset

import (
	"errors"
	"strings"

	"storehouse/api"
	"storehouse/disk"
	"storehouse/store"
)

// missing is where a fault tells ErrNone, if it is not the key but a disk's shard of it that is not there.
const missing = 1

// member is one of a set's disks. It has a store from when it came in, and the keys of which it has shards there; all of this holds as long as the disk has the life that it had then.
type member struct {
	place
	disk  *disk.Disk
	life  int
	store *store.Store
	keys  map[string]struct{}
}

// in tells whether the disk is in the set. One that died has another life, too.
func (d *member) in() bool { return d.store != nil && d.disk.Life() == d.life }

// has tells whether the disk is in the set and has a shard of a key.
func (d *member) has(key string) bool {
	_, there := d.keys[key]
	return there && d.in()
}

// power is ErrPower where the disk has none.
func (d *member) power() error {
	if _, err := d.disk.Read(0); errors.Is(err, api.ErrPower) {
		return wrapped(err)
	}
	return nil
}

// enter lets the disk be in the set, with the store that is there.
func (d *member) enter(s *store.Store) {
	d.store, d.life, d.keys = s, d.disk.Life(), map[string]struct{}{}
	for _, key := range d.named(shardMark) {
		d.keys[key] = struct{}{}
	}
}

// leave lets it be out.
func (d *member) leave() { d.store, d.keys = nil, nil }

// named is the keys that stand behind a mark in the store's names, rising. Names is never refused: a set whose store is closed is closed itself.
func (d *member) named(mark string) []string {
	names, _ := d.store.Names(mark)
	var keys []string
	for _, name := range names {
		if key := name[len(mark):]; isKey(key) {
			keys = append(keys, key)
		}
	}
	return keys
}

// lay makes the disk one of the set, at a generation, with nothing else on it.
func (d *member) lay(gen int) error {
	s, err := store.Format(d.disk)
	if err != nil {
		return wrapped(err)
	}
	if err := s.Commit(put(cardName, d.card(gen))); err != nil {
		return wrapped(err)
	}
	d.enter(s)
	return nil
}

// piece is what the disk's shard of a key tells, if it is right.
func (d *member) piece(key string) (piece, error) {
	if !d.has(key) {
		return piece{}, fault(api.ErrNone, missing)
	}
	text, err := d.store.Get(shardMark + key)
	if err != nil {
		return piece{}, wrapped(err)
	}
	return d.pieceIn(key, text)
}

// keep puts the disk's shard of a value.
func (d *member) keep(v value) error {
	if err := d.commit(put(shardMark+v.key, d.seal(v))); err != nil {
		return err
	}
	d.keys[strings.Clone(v.key)] = struct{}{}
	return nil
}

// begin is the first phase of a plan: what is put stands beside what there is.
func (d *member) begin(p plan) error {
	acts := []api.Act{put(nextName, d.card(p.gen)), put(goneName, p.goneText())}
	for _, v := range p.values {
		acts = append(acts, put(freshMark+v.key, d.seal(v)))
	}
	return d.commit(acts...)
}

// finish is the second phase: what was put takes the place of what there was.
func (d *member) finish(p plan) error {
	var acts []api.Act
	for _, key := range d.named(freshMark) {
		acts = append(acts, move(freshMark+key, shardMark+key))
		d.keys[key] = struct{}{}
	}
	for _, key := range p.gone {
		if d.has(key) {
			acts = append(acts, drop(shardMark+key))
			delete(d.keys, key)
		}
	}
	return d.commit(append(acts, move(nextName, cardName), drop(goneName))...)
}

// abandon drops what is under way, if anything is.
func (d *member) abandon() error {
	var acts []api.Act
	for _, mark := range []string{nextName, goneName} {
		if _, err := d.store.Where(mark); err == nil {
			acts = append(acts, drop(mark))
		}
	}
	for _, key := range d.named(freshMark) {
		acts = append(acts, drop(freshMark+key))
	}
	if len(acts) == 0 {
		return nil
	}
	return d.commit(acts...)
}

// commit does some acts on the disk's store, all of them or none.
func (d *member) commit(acts ...api.Act) error { return wrapped(d.store.Commit(acts...)) }

// put, drop and move are the acts of a store.
func put(name, value string) api.Act {
	return api.Act{Kind: api.ActPut, Name: name, Value: value}
}
func drop(name string) api.Act     { return api.Act{Kind: api.ActDrop, Name: name} }
func move(name, to string) api.Act { return api.Act{Kind: api.ActMove, Name: name, To: to} }
