package journal

import (
	"strings"

	"storehouse/api"
	"storehouse/disk"
)

// row is the sectors that a journal has: two halves, numbered 0 and 1.
type row struct {
	disk    *disk.Disk
	from    int
	sectors int // of a half
}

// rowOf is so many sectors of a disk, if a journal may have them.
func rowOf(d *disk.Disk, from, size int) (row, error) {
	if from < 0 || size < 4 || size%2 != 0 || size > d.Sectors()-from {
		return row{}, fault(api.ErrArg)
	}
	return row{disk: d, from: from, sectors: size / 2}, nil
}

// start is a half's first sector.
func (r row) start(half int) int { return r.from + half*r.sectors }

// find tells what the journal that is there has come to, and its records.
func (r row) find() (state, []string, error) {
	p := pen{disk: r.disk}
	var found state
	for half := range 2 {
		head := p.read(r.start(half), 1)
		if p.err != nil {
			return state{}, nil, wrapped(p.err)
		}
		if epoch := epochOf(head); epoch > found.epoch {
			found = state{active: half, epoch: epoch}
		}
	}
	if found.epoch == 0 {
		return state{}, nil, fault(api.ErrBlank)
	}
	text := p.read(r.start(found.active)+1, r.sectors-1)
	// What is told may be pending still, behind a power that went and came: it would be lost by the next one that goes.
	if r.disk.Pending() > 0 {
		p.flush()
	}
	if p.err != nil {
		return state{}, nil, wrapped(p.err)
	}
	records, sectors := recordsOf(text, found.epoch)
	found.number, found.used = 1+len(records), 1+sectors
	return found, records, nil
}

// blank lets a half not be right; it is pending then.
func (r row) blank(half int) error {
	p := pen{disk: r.disk}
	p.write(r.start(half), empty())
	return wrapped(p.err)
}

// lay lets records last from a place of a half on. Whenever the power goes they are all there, or the first one is not: its mark is written when all else lasts.
func (r row) lay(half, at int, records string) error {
	p := pen{disk: r.disk}
	first, rest := records[:api.SectorSize], records[api.SectorSize:]
	if at+len(records)/api.SectorSize < r.sectors {
		rest += empty() // what stands behind them from another time may look like the next record
	}
	at += r.start(half)
	stood := p.read(at, 1)
	p.write(at, noMark+first[len(mark):])
	if strings.HasPrefix(stood, mark) {
		p.flush() // a mark that is there may make a record of what comes behind it
	}
	p.write(at+1, rest)
	p.flush()
	p.write(at, first)
	p.flush()
	return wrapped(p.err)
}
