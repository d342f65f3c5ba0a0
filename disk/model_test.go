package disk_test

import (
	"math/rand"
	"strings"
	"testing"

	"storehouse/api"
	"storehouse/disk"
)

// plainPower is a power as the chapter tells it.
type plainPower struct {
	gone, fused bool
	fuse, acts  int
}

// plainWrite is a write that is pending.
type plainWrite struct {
	at   int
	data string
}

// plain is a disk as the chapter tells it: what lasts, and a list of what is pending, which each read looks through.
type plain struct {
	power   *plainPower
	sectors int
	lasts   []string
	pending []plainWrite
	dead    bool
	life    int
}

func newPlain(p *plainPower, sectors int) *plain {
	m := &plain{power: p, sectors: sectors}
	m.lay()
	return m
}

func (m *plain) lay() {
	m.lasts, m.pending, m.dead = nil, nil, false
	for range m.sectors {
		m.lasts = append(m.lasts, nought)
	}
}

func (m *plain) wrong(at int) bool { return at < 0 || at >= m.sectors }

func (m *plain) state() api.Errno {
	if m.power.gone {
		return api.ErrPower
	}
	if m.dead {
		return api.ErrDead
	}
	return api.OK
}

func (m *plain) read(at int) (string, api.Errno) {
	if e := m.state(); e != api.OK {
		return "", e
	}
	if m.wrong(at) {
		return "", api.ErrArg
	}
	s := m.lasts[at]
	for _, w := range m.pending {
		if w.at == at {
			s = w.data
		}
	}
	return s, api.OK
}

func (m *plain) act() api.Errno {
	if m.power.fused && m.power.fuse == 0 {
		m.power.gone = true
		return api.ErrPower
	}
	m.power.fuse--
	m.power.acts++
	return api.OK
}

func (m *plain) write(at int, data string) api.Errno {
	if e := m.state(); e != api.OK {
		return e
	}
	if m.wrong(at) || len(data) != 64 {
		return api.ErrArg
	}
	if e := m.act(); e != api.OK {
		return e
	}
	m.pending = append(m.pending, plainWrite{at, data})
	return api.OK
}

func (m *plain) flush() api.Errno {
	if e := m.state(); e != api.OK {
		return e
	}
	if e := m.act(); e != api.OK {
		return e
	}
	for _, w := range m.pending {
		m.lasts[w.at] = w.data
	}
	m.pending = nil
	return api.OK
}

func (m *plain) lose(keep []bool, torn int) {
	first := true
	for i, w := range m.pending {
		if i < len(keep) && keep[i] {
			m.lasts[w.at] = w.data
		} else if first {
			n := min(max(torn, 0), 64)
			m.lasts[w.at] = w.data[:n] + m.lasts[w.at][n:]
			first = false
		}
	}
	m.pending = nil
}

func (m *plain) rot(at, bit int) api.Errno {
	if m.dead {
		return api.ErrDead
	}
	if m.wrong(at) || bit < 0 || bit > 511 {
		return api.ErrArg
	}
	text := []byte(m.lasts[at])
	text[bit/8] ^= byte(1 << (bit % 8))
	m.lasts[at] = string(text)
	return api.OK
}

// pair is a disk, and one as the chapter tells it, with what each hangs on.
type pair struct {
	p  *disk.Power
	d  *disk.Disk
	pp *plainPower
	pd *plain
}

// same asks that both tell the same, in all that can be asked.
func (c *pair) same(t *testing.T) {
	t.Helper()
	if c.p.Gone() != c.pp.gone || c.p.Acts() != c.pp.acts {
		t.Fatal("power:", c.p.Gone(), c.p.Acts(), *c.pp)
	}
	lasts := strings.Join(c.pd.lasts, "")
	if c.pd.dead {
		lasts = ""
	}
	if c.d.Sectors() != c.pd.sectors || c.d.Dead() != c.pd.dead || c.d.Life() != c.pd.life || c.d.Pending() != len(c.pd.pending) || c.d.Image() != lasts {
		t.Fatalf("%d %v %d %d %q, not %d %v %d %d %q", c.d.Sectors(), c.d.Dead(), c.d.Life(), c.d.Pending(), c.d.Image(),
			c.pd.sectors, c.pd.dead, c.pd.life, len(c.pd.pending), lasts)
	}
	for at := -1; at <= c.pd.sectors; at++ {
		s, err := c.d.Read(at)
		want, e := c.pd.read(at)
		is(t, "Read", err, e)
		if s != want {
			t.Fatalf("sector %d: %q, not %q", at, s, want)
		}
	}
}

// step does one thing to both.
func (c *pair) step(t *testing.T, r *rand.Rand) {
	at, bit := r.Intn(c.pd.sectors+2)-1, r.Intn(514)-1
	switch r.Intn(20) {
	case 0:
		c.d.Kill()
		c.pd.lay()
		c.pd.dead = true
		c.pd.life++
	case 1, 2:
		c.d.Replace()
		c.pd.lay()
		c.pd.life++
	case 3:
		c.p.Cut()
		c.pp.gone = true
	case 4, 5, 6:
		c.p.On()
		c.pp.gone, c.pp.fused = false, false
	case 7:
		fuse := r.Intn(8) - 2
		c.p.Fuse(fuse)
		c.pp.fuse, c.pp.fused = fuse, fuse >= 0
	case 8:
		keep := make([]bool, r.Intn(10))
		for i := range keep {
			keep[i] = r.Intn(2) == 0
		}
		torn := r.Intn(68) - 2
		c.d.Lose(keep, torn)
		c.pd.lose(keep, torn)
	case 9, 10:
		is(t, "Rot", c.d.Rot(at, bit), c.pd.rot(at, bit))
	case 11, 12:
		is(t, "Flush", c.d.Flush(), c.pd.flush())
	default:
		data := strings.Repeat(string([]byte{byte(r.Intn(256))}), 64-r.Intn(30)/29)
		is(t, "Write", c.d.Write(at, data), c.pd.write(at, data))
	}
}

// P2.1 to P2.7: disks of two powers, through many steps of all kinds, tell what the chapter's own disks tell.
func TestLikeThePlainOne(t *testing.T) {
	for seed := range 200 {
		r := rand.New(rand.NewSource(int64(seed)))
		p, q := disk.NewPower(), disk.NewPower()
		pp, pq := &plainPower{}, &plainPower{}
		all := []*pair{
			{p, newDisk(t, p, 3), pp, newPlain(pp, 3)},
			{p, newDisk(t, p, 1), pp, newPlain(pp, 1)},
			{q, newDisk(t, q, 2), pq, newPlain(pq, 2)},
		}
		for range 150 {
			all[r.Intn(3)].step(t, r)
			for _, c := range all {
				c.same(t)
			}
		}
	}
}
