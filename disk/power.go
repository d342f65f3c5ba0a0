package disk

import "storehouse/api"

// noFuse stands where a power has no fuse.
const noFuse = -1

// supply is what a power and the disks at it have in common. Its methods are not exported: a disk embeds it, and must not show them as its own.
type supply struct {
	gone bool
	fuse int
	acts int
}

// act is asked ahead of each act: it counts it, or the power goes and the act may not be done.
func (s *supply) act() error {
	if s.fuse == 0 {
		s.gone = true
		return fault(api.ErrPower)
	}
	if s.fuse > 0 {
		s.fuse--
	}
	s.acts++
	return nil
}

// Power is what some disks have in common.
type Power struct{ supply }

// NewPower is there, without a fuse.
func NewPower() *Power { return &Power{supply{fuse: noFuse}} }

// Fuse lets it go at the act behind so many more (below 0: at none).
func (p *Power) Fuse(acts int) { p.fuse = max(acts, noFuse) }

// Cut lets it go at once.
func (p *Power) Cut() { p.gone = true }

// On lets it come again, without a fuse.
func (p *Power) On() { p.gone, p.fuse = false, noFuse }

// Gone tells whether it is gone.
func (p *Power) Gone() bool { return p.gone }

// Acts is how many acts have been done, of all disks at it.
func (p *Power) Acts() int { return p.acts }
