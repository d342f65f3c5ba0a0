package heal_test

import (
	"errors"
	"slices"
	"strings"
	"testing"

	"storehouse/api"
	"storehouse/disk"
	"storehouse/eset"
	"storehouse/heal"
	"storehouse/store"
)

// came asks that an error is a fault of this number, whatever it came from; of OK, that it is none.
func came(t *testing.T, what string, err error, code api.Errno) {
	t.Helper()
	if code == api.OK {
		if err != nil {
			t.Errorf("%s: %v", what, err)
		}
		return
	}
	f, ok := err.(*api.Fault)
	if !ok || f.Code != code || f.At != 0 || !errors.Is(err, code) {
		t.Errorf("%s: %v, not %d", what, err, code)
	}
}

// newDisks is disks of one power.
func newDisks(t *testing.T, many, sectors int) (*disk.Power, []*disk.Disk) {
	t.Helper()
	p := disk.NewPower()
	var l []*disk.Disk
	for range many {
		d, err := disk.New(p, sectors)
		came(t, "New", err, api.OK)
		l = append(l, d)
	}
	return p, l
}

// rack is a new set on disks of so many sectors.
func rack(t *testing.T, k, m, sectors int) (*disk.Power, []*disk.Disk, *eset.Set) {
	t.Helper()
	p, d := newDisks(t, k+m, sectors)
	s, err := eset.Format(d, k, m)
	if s == nil || err != nil {
		t.Fatal(err)
	}
	return p, d, s
}

// open is the set that is there.
func open(t *testing.T, d []*disk.Disk, k, m int) *eset.Set {
	t.Helper()
	s, err := eset.Open(d, k, m)
	if s == nil || err != nil {
		t.Fatal(err)
	}
	return s
}

func keep(key, value string) api.Change { return api.Change{Key: key, Value: value} }
func gone(key string) api.Change        { return api.Change{Key: key, Gone: true} }

// of is a value of so many bytes.
func of(c string, bytes int) string { return strings.Repeat(c, bytes) }

// commit asks that a Commit is done.
func commit(t *testing.T, s *eset.Set, changes ...api.Change) {
	t.Helper()
	came(t, "Commit", s.Commit(changes), api.OK)
}

// has asks for the value of a key.
func has(t *testing.T, s *eset.Set, key, want string) {
	t.Helper()
	if got, err := s.Get(key); got != want || err != nil {
		t.Errorf("Get %q: %q, %v, not %q", key, got, err, want)
	}
}

// turn lets a bit of a disk's shard of a key turn.
func turn(t *testing.T, d *disk.Disk, key string) {
	t.Helper()
	o, err := store.Open(d)
	if err != nil {
		t.Fatal(err)
	}
	runs, err := o.Where("d" + key)
	if err != nil || len(runs) == 0 {
		t.Fatal(key, runs, err)
	}
	came(t, "Rot", d.Rot(runs[0].From, 77), api.OK)
}

// drop takes a disk's shards of some keys away, behind the back of a set.
func drop(t *testing.T, d *disk.Disk, keys ...string) {
	t.Helper()
	var acts []api.Act
	for _, key := range keys {
		acts = append(acts, api.Act{Kind: api.ActDrop, Name: "d" + key})
	}
	behind(t, d, acts...)
}

// behind does some acts on a disk's store behind the back of a set.
func behind(t *testing.T, d *disk.Disk, acts ...api.Act) {
	t.Helper()
	o, err := store.Open(d)
	if err != nil {
		t.Fatal(err)
	}
	came(t, "Commit of a store", o.Commit(acts...), api.OK)
}

// dead, out, missing and rotten are what is sick.
func dead(disk int) api.Sick { return api.Sick{Disk: disk, Kind: api.SickDead} }
func out(disk int) api.Sick  { return api.Sick{Disk: disk, Kind: api.SickOut} }
func missing(disk int, key string) api.Sick {
	return api.Sick{Disk: disk, Key: key, Kind: api.SickMissing}
}
func rotten(disk int, key string) api.Sick {
	return api.Sick{Disk: disk, Key: key, Kind: api.SickRot}
}

// scan asks what is sick.
func scan(t *testing.T, s *eset.Set, want ...api.Sick) {
	t.Helper()
	if got, err := heal.Scan(s); !slices.Equal(got, want) || err != nil {
		t.Errorf("Scan: %v, %v, not %v", got, err, want)
	}
}

// scanFails asks that Scan answers an error.
func scanFails(t *testing.T, s *eset.Set, code api.Errno) {
	t.Helper()
	got, err := heal.Scan(s)
	came(t, "Scan", err, code)
	if got != nil {
		t.Error("Scan:", got, "beside an error")
	}
}

// step asks that a step finds this sick, and that mending it is done, or fails.
func step(t *testing.T, h *heal.Healer, want api.Sick, code api.Errno) {
	t.Helper()
	got, sick, err := h.Step()
	came(t, "Step", err, code)
	if got != want || sick != (want != api.Sick{}) {
		t.Errorf("Step: %v, %v, not %v", got, sick, want)
	}
}

// well asks that so many steps find nothing sick.
func well(t *testing.T, h *heal.Healer, steps int) {
	t.Helper()
	for range steps {
		step(t, h, api.Sick{}, api.OK)
	}
}

// rounds asks how many are over.
func rounds(t *testing.T, h *heal.Healer, want int) {
	t.Helper()
	if h.Rounds() != want {
		t.Error("Rounds:", h.Rounds(), "not", want)
	}
}

// The chapter's examples.
func TestExamples(t *testing.T) {
	_, d, s := rack(t, 2, 1, 128)
	commit(t, s, keep("a", "x"), keep("b", "y"))
	scan(t, s)
	d[1].Kill()
	d[1].Replace()
	scan(t, s, out(1))
	h := heal.New(s)
	well(t, h, 3)
	step(t, h, out(1), api.OK)
	step(t, h, missing(1, "a"), api.OK)
	step(t, h, missing(1, "b"), api.OK)
	well(t, h, 3)
	rounds(t, h, 1)
	scan(t, s)
	turn(t, d[2], "a")
	scan(t, s, rotten(2, "a"))
	d[0].Kill()
	step(t, h, dead(0), api.OK)
}

// P11.1: all kinds, in the order of the things: disk by disk, the disk itself ahead of its shards, these by their keys rising.
func TestScan(t *testing.T) {
	_, d, _ := rack(t, 1, 5, 128)
	s := open(t, d, 1, 5)
	scan(t, s)
	names := []string{"b", "a", "aa", "\xff", "B", "\x00", of("k", 200)}
	for _, key := range names {
		commit(t, s, keep(key, key))
	}
	scan(t, s)
	drop(t, d[1], "a", "\xff", "\x00")
	drop(t, d[5], names...)
	s = open(t, d, 1, 5)
	turn(t, d[1], "b")
	turn(t, d[0], of("k", 200))
	turn(t, d[4], "B")
	d[2].Kill()
	d[3].Replace()
	scan(t, s,
		rotten(0, of("k", 200)),
		missing(1, "\x00"), missing(1, "a"), rotten(1, "b"), missing(1, "\xff"),
		dead(2), out(3),
		rotten(4, "B"),
		missing(5, "\x00"), missing(5, "B"), missing(5, "a"), missing(5, "aa"), missing(5, "b"), missing(5, of("k", 200)), missing(5, "\xff"))
}

// P11.1: a disk is dead, or out; its shards are sick only if it is in.
func TestScanOfDisks(t *testing.T) {
	_, d, s := rack(t, 1, 2, 128)
	commit(t, s, keep("a", "1"))
	turn(t, d[1], "a")
	scan(t, s, rotten(1, "a"))
	d[1].Kill()
	scan(t, s, dead(1))
	d[1].Replace()
	scan(t, s, out(1))
	d[1].Replace()
	scan(t, s, out(1))
	d[1].Kill()
	scan(t, s, dead(1))
	d[1].Replace()
	came(t, "Join", s.Join(1), api.OK)
	scan(t, s, missing(1, "a"))
	d[1].Replace() // it was not dead
	scan(t, s, out(1))
	d[0].Kill()
	scan(t, s, dead(0), out(1))
	d[2].Kill() // now there are no keys
	scan(t, s, dead(0), out(1), dead(2))
	d[0].Replace()
	d[2].Replace()
	scan(t, s, out(0), out(1), out(2))
}

// P11.1: a shard that is read as it was written, but is none, is rot, too.
func TestScanOfWhatIsNoShard(t *testing.T) {
	_, d, s := rack(t, 2, 1, 128)
	commit(t, s, keep("a", "1"), keep("b", "2"))
	for i, text := range []string{"", "x", of("x", 300)} {
		behind(t, d[i], api.Act{Kind: api.ActPut, Name: "da", Value: text})
	}
	s = open(t, d, 2, 1)
	scan(t, s, rotten(0, "a"), rotten(1, "a"), rotten(2, "a"))
}

// P11.1: the error of Keys, if the set is closed: whatever is sick, power or none, keys or none.
func TestScanOfAClosedSet(t *testing.T) {
	for _, key := range []string{"", "a"} {
		p, d, s := rack(t, 1, 1, 128)
		if key != "" {
			commit(t, s, keep(key, "1"))
		}
		closed(t, p, s)
		scanFails(t, s, api.ErrClosed)
		p.On()
		scanFails(t, s, api.ErrClosed)
		d[0].Kill()
		d[1].Replace()
		scanFails(t, s, api.ErrClosed)
	}
}

// closed lets a set be closed, by power that goes.
func closed(t *testing.T, p *disk.Power, s *eset.Set) {
	t.Helper()
	p.Fuse(1)
	came(t, "Commit", s.Commit([]api.Change{keep("a", "other")}), api.ErrPower)
	_, err := s.Keys("")
	came(t, "Keys", err, api.ErrClosed)
}

// P11.1: the error of Look, if the power is gone; where nothing is to be looked at (no keys, or no disk that is in) none is told.
func TestScanInTheDark(t *testing.T) {
	p, d, s := rack(t, 1, 2, 128)
	p.Cut()
	scan(t, s)
	p.On()
	d[0].Kill()
	p.Cut()
	scan(t, s, dead(0))
	p.On()
	commit(t, s, keep("a", "1"))
	turn(t, d[1], "a")
	p.Cut()
	scanFails(t, s, api.ErrPower)
	_, err := heal.Scan(s)
	sameError(t, err, s.Look(1, "a"))
	p.On()
	scan(t, s, dead(0), rotten(1, "a"))
	p.Cut()
	d[1].Kill()
	scanFails(t, s, api.ErrPower)
	d[2].Replace()
	scan(t, s, dead(0), dead(1), out(2))
}

// P11.1: of disks at several powers the first one whose Look fails is told, whatever was found ahead of it.
func TestScanAtSeveralPowers(t *testing.T) {
	p, d := newDisks(t, 2, 128)
	q, more := newDisks(t, 1, 128)
	d = append(d, more...)
	s, err := eset.Format(d, 2, 1)
	came(t, "Format", err, api.OK)
	commit(t, s, keep("a", "1"))
	turn(t, d[0], "a")
	q.Cut()
	scanFails(t, s, api.ErrPower)
	h := heal.New(s)
	well(t, h, 1)
	step(t, h, rotten(0, "a"), api.ErrPower) // Lay asks all disks
	well(t, h, 3)
	step(t, h, api.Sick{}, api.ErrPower) // Look asks the one alone
	step(t, h, api.Sick{}, api.ErrPower)
	rounds(t, h, 0)
	p.Cut()
	q.On()
	well(t, h, 1)
	rounds(t, h, 1)
	well(t, h, 1)
	step(t, h, api.Sick{}, api.ErrPower)
	p.On()
	step(t, h, rotten(0, "a"), api.OK)
	scan(t, s)
}

// sameError asks that an error is as another one, and so is all from which it came.
func sameError(t *testing.T, err, want error) {
	t.Helper()
	for {
		f, ok := err.(*api.Fault)
		g, like := want.(*api.Fault)
		if !ok || !like || f == g || f.Code != g.Code || f.At != g.At {
			t.Error(err, "not", want)
			return
		}
		if err, want = f.Inner, g.Inner; err == nil && want == nil {
			return
		}
	}
}

// P11.1: Scan changes nothing.
func TestScanChangesNothing(t *testing.T) {
	p, d, s := rack(t, 2, 2, 128)
	commit(t, s, keep("a", "1"), keep("b", of("b", 500)))
	turn(t, d[0], "b")
	d[1].Replace()
	d[2].Kill()
	before := all(p, d, s)
	for range 3 {
		scan(t, s, rotten(0, "b"), out(1), dead(2))
	}
	p.Cut()
	scanFails(t, s, api.ErrPower)
	p.On()
	if got := all(p, d, s); got != before {
		t.Errorf("%s\nnot\n%s", got, before)
	}
}
