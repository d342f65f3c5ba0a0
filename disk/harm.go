package disk

import "storehouse/api"

// Pending is how many writes have not been flushed.
func (d *Disk) Pending() int { return len(d.pending) }

// Lose lets the pending writes that are kept last, and of the first one that is not, its first torn bytes.
func (d *Disk) Lose(keep []bool, torn int) {
	torn = min(max(torn, 0), api.SectorSize)
	d.settle(func(i int) int {
		if i < len(keep) && keep[i] {
			return api.SectorSize
		}
		bytes := torn
		torn = 0 // only the first one is torn
		return bytes
	})
}

// Kill lets it die, with all that is on it.
func (d *Disk) Kill() {
	d.medium = medium{}
	d.life++
}

// Replace lays another one in its place.
func (d *Disk) Replace() {
	d.medium = blank(d.sectors)
	d.life++
}

// Dead tells whether it is dead.
func (d *Disk) Dead() bool { return len(d.lasts) == 0 }

// Life is how often Kill and Replace have been called.
func (d *Disk) Life() int { return d.life }

// Rot turns a bit of what lasts of a sector.
func (d *Disk) Rot(at int, bit int) error {
	if d.Dead() {
		return fault(api.ErrDead)
	}
	if !d.has(at) || bit < 0 || bit >= 8*api.SectorSize {
		return fault(api.ErrArg)
	}
	d.lasts[at][bit/8] ^= 1 << (bit % 8)
	return nil
}
