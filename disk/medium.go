package disk

import (
	"strings"

	"storehouse/api"
)

// sector is the bytes of one.
type sector [api.SectorSize]byte

// write is a sector's bytes that are pending.
type write struct {
	at   int
	data sector
}

// medium is what a disk has within; one without sectors is a dead disk's. newest tells of each sector how many writes were pending when its last one had come (0: none of it is), so that no read has to look through them all.
type medium struct {
	lasts   []sector
	pending []write
	newest  []int
}

// blank is a medium of bytes 0.
func blank(sectors int) medium {
	return medium{lasts: make([]sector, sectors), newest: make([]int, sectors)}
}

// has tells whether there is such a sector.
func (m *medium) has(at int) bool { return 0 <= at && at < len(m.lasts) }

// read is what a sector reads as.
func (m *medium) read(at int) string {
	if n := m.newest[at]; n > 0 {
		return string(m.pending[n-1].data[:])
	}
	return string(m.lasts[at][:])
}

// write lets one more write be pending.
func (m *medium) write(at int, data string) {
	w := write{at: at}
	copy(w.data[:], data)
	m.pending = append(m.pending, w)
	m.newest[at] = len(m.pending)
}

// settle lets of each pending write its first bytes last, as many as kept says, in the order of the writes; nothing is pending then.
func (m *medium) settle(kept func(i int) int) {
	for i, w := range m.pending {
		copy(m.lasts[w.at][:], w.data[:kept(i)])
		m.newest[w.at] = 0
	}
	m.pending = nil
}

// image is all that lasts.
func (m *medium) image() string {
	var all strings.Builder
	all.Grow(len(m.lasts) * api.SectorSize)
	for i := range m.lasts {
		all.Write(m.lasts[i][:])
	}
	return all.String()
}
