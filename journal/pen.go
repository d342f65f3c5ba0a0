package journal

import (
	"strings"

	"storehouse/api"
	"storehouse/disk"
)

// empty is a sector of bytes 0, which is no record.
func empty() string { return strings.Repeat(noMark, api.SectorSize) }

// pen reads and writes sectors of a disk, till the disk answers an error: that is kept, and nothing is done any more.
type pen struct {
	disk *disk.Disk
	err  error
}

// read is the bytes of so many sectors.
func (p *pen) read(at, many int) string {
	var text strings.Builder
	for i := range many {
		if p.err != nil {
			return ""
		}
		sector, err := p.disk.Read(at + i)
		p.err = err
		text.WriteString(sector)
	}
	return text.String()
}

// write lays a text of whole sectors.
func (p *pen) write(at int, text string) {
	for ; len(text) > 0 && p.err == nil; at++ {
		p.err = p.disk.Write(at, text[:api.SectorSize])
		text = text[api.SectorSize:]
	}
}

// flush lets all that was written last.
func (p *pen) flush() {
	if p.err == nil {
		p.err = p.disk.Flush()
	}
}
