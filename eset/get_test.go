package eset_test

import (
	"slices"
	"strings"
	"testing"

	"storehouse/api"
	"storehouse/disk"
	"storehouse/store"
)

// act does some acts on a disk's store, behind the back of the set.
func act(t *testing.T, d *disk.Disk, acts ...api.Act) {
	t.Helper()
	is(t, "Commit of a store", on(t, d).Commit(acts...), api.OK, 0)
}

func put(name, value string) api.Act {
	return api.Act{Kind: api.ActPut, Name: name, Value: value}
}
func drop(name string) api.Act { return api.Act{Kind: api.ActDrop, Name: name} }

// few asks that Get of a key that is there finds too few right shards.
func few(t *testing.T, d []*disk.Disk, k, m int, key string) {
	t.Helper()
	none(t, open(t, d, k, m), key, api.ErrFew)
}

// P10.3: values of all sizes, in sets of all shapes, told whole, and told by any k of the disks.
func TestGet(t *testing.T) {
	for _, c := range []struct{ k, m int }{{1, 0}, {2, 0}, {1, 1}, {1, 2}, {2, 1}, {2, 2}, {3, 2}, {5, 1}} {
		values := map[string]string{}
		var changes []api.Change
		for i, n := range []int{0, 1, 2, 3, 5, 199, 200, 201, 1000, 7999, 8000} {
			key, value := string(rune('a'+i)), make([]byte, n)
			for j := range value {
				value[j] = byte(j*7 + i)
			}
			values[key] = string(value)
			changes = append(changes, keep(key, string(value)))
		}
		_, d, s := rack(t, c.k, c.m, 2000)
		done(t, s, changes...)
		for key, value := range values {
			has(t, s, key, value)
		}
		if c.k+c.m > 4 {
			continue
		}
		for mask := range 1 << (c.k + c.m) {
			_, d, s = rack(t, c.k, c.m, 2000)
			done(t, s, changes...)
			left := 0
			for i := range d {
				if mask>>i&1 > 0 {
					d[i].Kill()
				} else {
					left++
				}
			}
			for key, value := range values {
				switch {
				case left >= c.k:
					has(t, s, key, value)
				case left > 0:
					none(t, s, key, api.ErrFew)
				default:
					none(t, s, key, api.ErrNone)
				}
			}
		}
	}
}

// P10.3: which keys may be asked for, and which are not there.
func TestGetOfWhat(t *testing.T) {
	_, _, s := rack(t, 2, 1, 400)
	long := of("k", 200)
	done(t, s, keep(long, "1"), keep("k", "2"), keep("\x00", "3"), keep("\xff\xfe", "4"))
	has(t, s, long, "1")
	has(t, s, "k", "2")
	has(t, s, "\x00", "3")
	has(t, s, "\xff\xfe", "4")
	for _, key := range []string{"", of("k", 201), of("k", 219), of("k", 220), of("k", 1000)} {
		none(t, s, key, api.ErrArg)
	}
	for _, key := range []string{"kk", "K", "dk", "!", "n", "t", "s", "d", of("k", 199), "\x00\x00"} {
		none(t, s, key, api.ErrNone)
	}
}

// P10.3: of several errors the first one of the promise is told.
func TestWhichErrorOfGet(t *testing.T) {
	p, d, s := rack(t, 2, 1, 128)
	done(t, s, keep("a", "1"))
	p.Cut()
	none(t, s, "", api.ErrArg)
	none(t, s, "x", api.ErrNone)
	_, err := s.Get("a")
	below(t, "Get, dark", err, api.ErrPower, 1)
	d[0].Kill()
	d[1].Kill()
	_, err = s.Get("a")
	below(t, "Get, dark, of one disk", err, api.ErrPower, 1)
	keys(t, s, "", "a")
	p.On()
	none(t, s, "a", api.ErrFew)
	d[2].Kill()
	none(t, s, "a", api.ErrNone)
	keys(t, s, "")
}

// P10.3: power that comes again is as if it had never gone.
func TestPowerComesAgain(t *testing.T) {
	p, d, s := rack(t, 2, 1, 128)
	want := newPlain(2, 1).commit(keep("a", "1"))
	done(t, s, keep("a", "1"))
	p.Cut()
	s.Get("a")
	came(t, "Commit", s.Commit([]api.Change{keep("a", "2")}), api.ErrPower)
	came(t, "Look", s.Look(1, "a"), api.ErrPower)
	came(t, "Lay", s.Lay(1, "a"), api.ErrPower)
	came(t, "Join", s.Join(1), api.ErrPower)
	p.On()
	want.agrees(t, d, s)
	done(t, s, keep("a", "3"))
	want.commit(keep("a", "3")).agrees(t, d, s)
}

// P10.3: a shard that is not right does not count, whatever is wrong with it.
func TestShardsThatAreNotRight(t *testing.T) {
	const value = "the value"
	right := func(i int) string { return shardOf(2, 1, i, "a", value) }
	inside := func(i int) string { return right(i)[36 : len(right(i))-32] }
	for what, wrong := range map[string]string{
		"of another key":    seal("db", inside(1)),
		"under its own key": seal("a", inside(1)),
		"of another disk":   right(0),
		"nothing":           "",
		"no sealed text":    inside(1),
		"no list":           seal("da", "x"),
		"of two texts":      seal("da", list(u32(1), u32(9))),
		"of four texts":     seal("da", list(u32(1), u32(9), "alue\x00", "")),
		"of no texts":       seal("da", list()),
		"a short number":    seal("da", list("\x01", u32(9), "alue\x00")),
		"a long number":     seal("da", list("\x00"+u32(1), u32(9), "alue\x00")),
		"number 3":          seal("da", list(u32(3), u32(9), "alue\x00")),
		"a short length":    seal("da", list(u32(1), "\x09", "alue\x00")),
		"a long length":     seal("da", list(u32(1), u32(9)+"\x00", "alue\x00")),
		"length 8001":       seal("da", list(u32(1), u32(8001), of("x", 4001))),
		"length 2^32 - 1":   seal("da", list(u32(1), "\xff\xff\xff\xff", "alue\x00")),
		"length 8":          seal("da", list(u32(1), u32(8), "alue\x00")),
		"length 11":         seal("da", list(u32(1), u32(11), "alue\x00")),
		"a byte less":       seal("da", list(u32(1), u32(9), "alue")),
		"a byte more":       seal("da", list(u32(1), u32(9), "alue\x00\x00")),
	} {
		_, d, s := rack(t, 2, 1, 400)
		done(t, s, keep("a", value))
		if inside(1) != list(u32(1), u32(9), "alue\x00") {
			t.Fatal("not the shard that is tried")
		}
		act(t, d[1], put("da", wrong))
		s = open(t, d, 2, 1)
		has(t, s, "a", value)
		came(t, what, s.Look(1, "a"), api.ErrRot)
		d[2].Kill()
		none(t, s, "a", api.ErrFew)
		if t.Failed() {
			t.Fatal(what)
		}
	}
}

// P10.3: a right shard may be of any value; of those that tell another length than the first one nothing is made.
func TestShardsOfOtherLengths(t *testing.T) {
	lay := func(values ...string) []*disk.Disk {
		_, d, s := rack(t, 2, 2, 400)
		done(t, s, keep("a", "x"))
		for i, value := range values {
			if value == "gone" {
				act(t, d[i], drop("da"))
			} else if value != "" {
				act(t, d[i], put("da", shardOf(2, 2, i, "a", value)))
			}
		}
		return d
	}
	has(t, open(t, lay("four", "seven!!", "four", "seven!!"), 2, 2), "a", "four")
	has(t, open(t, lay("seven!!", "four", "four", "seven!!"), 2, 2), "a", "seven!!")
	has(t, open(t, lay("gone", "four", "seven!!", "four"), 2, 2), "a", "four")
	has(t, open(t, lay("four", "four", "seven!!", "seven!!"), 2, 2), "a", "four")
	has(t, open(t, lay(of("x", 8000), of("x", 8000)), 2, 2), "a", of("x", 8000))
	few(t, lay("four", "seven!!", "seven!!", "seven!!"), 2, 2, "a")
	few(t, lay("four", "gone", "gone", "seven!!"), 2, 2, "a")
	few(t, lay("four", "gone", "gone", "gone"), 2, 2, "a")
	none(t, open(t, lay("gone", "gone", "gone", "gone"), 2, 2), "a", api.ErrNone)
	// Of one length the first two count, whatever the others say.
	has(t, open(t, lay("fourFOUR", "fourFOUR", "xxxxxxxx", "yyyyyyyy"), 2, 2), "a", "fourFOUR")
	has(t, open(t, lay("fourFOUR", "xxxxxxxx", "fourFOUR", "fourFOUR"), 2, 2), "a", "fourxxxx")
}

// P10.3: a bit that turns in a shard's sectors is seen at once, and a bit that is turned back heals it.
func TestRotOfAShard(t *testing.T) {
	_, d, s := rack(t, 2, 1, 128)
	done(t, s, keep("a", of("a", 300)), keep("b", "stays"))
	turn(t, d[0], "da")
	has(t, s, "a", of("a", 300))
	has(t, s, "b", "stays")
	turn(t, d[2], "da")
	none(t, s, "a", api.ErrFew)
	has(t, s, "b", "stays")
	turn(t, d[0], "da")
	has(t, s, "a", of("a", 300))
}

// P10.3: a key is there if one disk that is in has a shard of it, right or not.
func TestWhereAKeyIs(t *testing.T) {
	_, d, s := rack(t, 2, 1, 128)
	done(t, s, keep("a", "1"), keep("b", "2"))
	act(t, d[0], drop("da"), put("dc", "rot"))
	act(t, d[1], drop("da"))
	s = open(t, d, 2, 1)
	keys(t, s, "", "a", "b", "c")
	none(t, s, "a", api.ErrFew)
	none(t, s, "c", api.ErrFew)
	d[2].Kill()
	keys(t, s, "", "b", "c")
	none(t, s, "a", api.ErrNone)
	d[0].Replace()
	keys(t, s, "", "b")
	none(t, s, "c", api.ErrNone)
	none(t, s, "b", api.ErrFew)
}

// P10.3: names in a store that are no shard's are no keys.
func TestNamesThatAreNoKeys(t *testing.T) {
	_, d, s := rack(t, 1, 1, 128)
	done(t, s, keep("a", "1"))
	act(t, d[0], put("d", "x"), put("e", "x"), put("a", "x"), put("!a", "x"), put("d"+of("k", 201), "x"), put("D", "x"), put("db", "x"), put("ddd", "x"))
	s = open(t, d, 1, 1)
	keys(t, s, "", "a", "b", "dd")
	keys(t, s, "d", "dd")
	keys(t, s, "k")
	has(t, s, "a", "1")
	is(t, "Look", s.Look(1, "dd"), api.ErrNone, 1)
	if l, err := on(t, d[0]).Names("d"); err != nil || !slices.Equal(l, []string{"d", "da", "db", "ddd", "d" + of("k", 201)}) {
		t.Error(l, err)
	}
}

// P10.3: the keys that begin with a prefix, rising by their bytes.
func TestKeys(t *testing.T) {
	_, d, s := rack(t, 2, 1, 512)
	var changes []api.Change
	all := []string{"b/1", "a", "b/2", "\xff", "b", "a/b", "\x00", "B", "b0", "ab", of("z", 200), "b/", "b/10"}
	for _, key := range all {
		changes = append(changes, keep(key, "1"))
	}
	done(t, s, changes...)
	slices.Sort(all)
	for _, prefix := range []string{"", "a", "b", "b/", "b/1", "b/10", "b/100", "x", "\x00", "\xff", "\xff\xff", of("z", 199), of("z", 200), of("z", 201), "d", "!"} {
		var want []string
		for _, key := range all {
			if strings.HasPrefix(key, prefix) {
				want = append(want, key)
			}
		}
		keys(t, s, prefix, want...)
		keys(t, open(t, d, 2, 1), prefix, want...)
	}
	done(t, s, gone("b/1"), gone("a"))
	keys(t, s, "b/", "b/", "b/10", "b/2")
	keys(t, s, "a", "a/b", "ab")
}

// P10.3, P10.4, P10.6, P10.7: of a closed set every call but Disks, Dead, Gen and In answers ErrClosed, whatever it is asked.
func TestClosed(t *testing.T) {
	p, d, s := rack(t, 2, 1, 128)
	done(t, s, keep("a", "1"))
	d[2].Kill()
	p.Fuse(9)
	came(t, "Commit", s.Commit([]api.Change{keep("a", "2")}), api.ErrPower)
	for _, let := range []func(){func() {}, p.On, d[2].Replace, p.Cut} {
		let()
		for _, key := range []string{"a", "x", "", of("k", 201)} {
			none(t, s, key, api.ErrClosed)
			l, err := s.Keys(key)
			is(t, "Keys", err, api.ErrClosed, 0)
			if l != nil {
				t.Error("keys beside an error:", l)
			}
			is(t, "Commit", s.Commit([]api.Change{keep(key, "")}), api.ErrClosed, 0)
			for _, i := range []int{-1, 0, 1, 2, 3} {
				is(t, "Look", s.Look(i, key), api.ErrClosed, 0)
				is(t, "Lay", s.Lay(i, key), api.ErrClosed, 0)
				is(t, "Join", s.Join(i), api.ErrClosed, 0)
			}
		}
		is(t, "Commit", s.Commit(nil), api.ErrClosed, 0)
		if s.Disks() != 3 || s.Gen() != 1 || !s.In(0) || s.In(2) || s.In(3) || s.Dead(0) || s.Dead(2) != d[2].Dead() {
			t.Error(s.Disks(), s.Gen(), s.In(0), s.In(2), s.Dead(2))
		}
	}
}

// The disks of a set have stores of their own: what a store of a disk tells is what P10.3 goes by.
func TestStoresAreThere(t *testing.T) {
	_, d, s := rack(t, 2, 1, 128)
	done(t, s, keep("a", "abc"))
	for i := range d {
		o, err := store.Open(d[i])
		if err != nil {
			t.Fatal(err)
		}
		text, err := o.Get("da")
		if text != shardOf(2, 1, i, "a", "abc") || err != nil {
			t.Errorf("%q, %v", text, err)
		}
	}
}
