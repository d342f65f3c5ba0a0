package store

import (
	"iter"
	"strings"

	"storehouse/api"
	"storehouse/disk"
	"storehouse/frame"
)

// A half of the journal has one of so many sectors of the disk, and at least the fewest.
const (
	fewestOfHalf = 4
	halvesOfDisk = 8
)

// recordHead is how many bytes of a record are ahead of its payload (chapter 3).
const recordHead = 24

// ground is a disk, and which of its sectors are the data; those ahead of them are the journal's.
type ground struct {
	disk *disk.Disk
	data api.Extent
}

// groundOf is that of a disk, if it is great enough for a store.
func groundOf(d *disk.Disk) (ground, error) {
	sectors := d.Sectors()
	if sectors < api.SmallestDisk {
		return ground{}, fault(api.ErrArg, 0)
	}
	from := 2 * max(fewestOfHalf, sectors/halvesOfDisk)
	return ground{disk: d, data: api.Extent{From: from, Many: sectors - from}}, nil
}

// journalSize is how many sectors the journal has, from the disk's first one on.
func (g ground) journalSize() int { return g.data.From }

// sectorsFor is how many sectors so many bytes want.
func sectorsFor(bytes int) int { return (bytes + api.SectorSize - 1) / api.SectorSize }

// sectorsOfRecord is how many sectors of a journal a record with this payload wants.
func sectorsOfRecord(payload string) int { return sectorsFor(recordHead + len(payload)) }

// runsOf is sectors that rise, in runs as long as can be.
func runsOf(sectors []int) []api.Extent {
	var runs []api.Extent
	for _, at := range sectors {
		last := len(runs) - 1
		if last >= 0 && runs[last].From+runs[last].Many == at {
			runs[last].Many++
		} else {
			runs = append(runs, api.Extent{From: at, Many: 1})
		}
	}
	return runs
}

// each is the sectors of some runs, one behind the other.
func each(runs []api.Extent) iter.Seq[int] {
	return func(yield func(int) bool) {
		for _, run := range runs {
			for i := range run.Many {
				if !yield(run.From + i) {
					return
				}
			}
		}
	}
}

// read is the value that lies where its tail says, if it has the tail's sum.
func (g ground) read(t tail) (string, error) {
	var text strings.Builder
	for at := range each(t.runs) {
		sector, err := g.disk.Read(at)
		if err != nil {
			return "", wrapped(err)
		}
		text.WriteString(sector)
	}
	value := text.String()[:t.length]
	if frame.Sum(value) != t.sum {
		return "", fault(api.ErrRot, 0)
	}
	return value, nil
}

// write lays a value on the sectors of its runs, made up with bytes 0.
func (g ground) write(runs []api.Extent, value string) error {
	text := value + strings.Repeat("\x00", sectorsFor(len(value))*api.SectorSize-len(value))
	for at := range each(runs) {
		if err := g.disk.Write(at, text[:api.SectorSize]); err != nil {
			return err
		}
		text = text[api.SectorSize:]
	}
	return nil
}

// flush lets what was written last.
func (g ground) flush() error {
	if g.disk.Pending() == 0 {
		return nil
	}
	return g.disk.Flush()
}
