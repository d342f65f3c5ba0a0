package heal

import (
	"storehouse/api"
	"storehouse/eset"
)

// Healer goes over a set again and again, one thing a step.
type Healer struct {
	set    *eset.Set
	disk   int
	behind string                   // the last key of the disk that was looked at; none, if the disk itself was
	look   func() (api.Sick, error) // finds the next step's thing: the disk itself, or a shard of its
	rounds int
}

// New begins at the beginning.
func New(s *eset.Set) *Healer {
	h := &Healer{set: s}
	h.look = h.lookAtDisk
	return h
}

// Step looks at one thing, and mends it, if it can: what was wrong; false: nothing was.
func (h *Healer) Step() (api.Sick, bool, error) {
	thing, err := h.look()
	if err != nil {
		return api.Sick{}, false, err
	}
	failed := h.mend(thing)
	if err := h.goOn(thing.Key); err != nil && failed == nil { // what mending answers is told ahead of what it leads to
		return api.Sick{}, false, err
	}
	if thing.Kind == well {
		return api.Sick{}, false, nil
	}
	return thing, true, failed
}

// Rounds is how often it came to the end.
func (h *Healer) Rounds() int { return h.rounds }

// lookAtDisk finds what is wrong with the disk itself.
func (h *Healer) lookAtDisk() (api.Sick, error) {
	return api.Sick{Disk: h.disk, Kind: kindOfDisk(h.set, h.disk)}, nil
}

// lookAtShard finds what is wrong with the disk's next shard; if the keys that were to come have gone since the last step, with the next disk itself.
func (h *Healer) lookAtShard() (api.Sick, error) {
	key, more, err := h.above(h.behind)
	if err != nil {
		return api.Sick{}, err
	}
	if !more {
		h.nextDisk()
		return h.lookAtDisk()
	}
	kind, err := kindOfShard(h.set, h.disk, key)
	return api.Sick{Disk: h.disk, Key: key, Kind: kind}, err
}

// mend does what can be done for a thing.
func (h *Healer) mend(thing api.Sick) error {
	switch thing.Kind {
	case api.SickOut:
		return h.set.Join(thing.Disk)
	case api.SickMissing, api.SickRot:
		return h.set.Lay(thing.Disk, thing.Key)
	}
	return nil
}

// goOn leaves the thing that was looked at: a shard of this key, or, without one, the disk itself. With an error it stays there.
func (h *Healer) goOn(key string) error {
	_, more, err := h.above(key)
	if err != nil {
		return err
	}
	if more {
		h.behind, h.look = key, h.lookAtShard
	} else {
		h.nextDisk()
	}
	return nil
}

// nextDisk goes on to the next disk itself, behind the last one to the first.
func (h *Healer) nextDisk() {
	h.look = h.lookAtDisk
	if h.disk++; h.disk == h.set.Disks() {
		h.disk = 0
		h.rounds++
	}
}

// above is the least key above one (above none: the least of all); false, if there is none.
func (h *Healer) above(key string) (string, bool, error) {
	keys, err := h.set.Keys("")
	if err != nil {
		return "", false, err
	}
	for _, next := range keys {
		if next > key {
			return next, true, nil
		}
	}
	return "", false, nil
}
