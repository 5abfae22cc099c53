package device_test

import (
	"slices"
	"testing"

	"limewash/api"
	"limewash/device"
)

// readsAs fails if d does not read as l.
func readsAs(t *testing.T, d *device.Dev, l []api.Sector) {
	t.Helper()
	for n, want := range l {
		if got, e := d.Read(n); e != api.OK || got != want {
			t.Fatalf("Read %d: %v %d, want %v", n, got, e, want)
		}
	}
}

// TestReads is for P6.5: a sector reads as what was written last to it, whatever was flushed.
func TestReads(t *testing.T) {
	for seed := range 10 {
		next := numbers(uint64(50 + seed))
		last := sectorsOf(64 + 19*seed)
		d := mustLoad(t, api.DvState{Stable: last, Power: -1})
		for i := range 900 {
			n, s := next(1+next(len(last))), randomSector(next)
			must(t, d.Write(n, s))
			last[n] = s
			if seed > 1 && next(10*seed) == 0 {
				must(t, d.Flush())
			}
			if i%30 == 0 || d.Pending() < 2 {
				readsAs(t, d, last)
			}
		}
		readsAs(t, d, last)
	}
}

// TestOthersStay is for P6.5: what was stable or flushed does not change by writes of other sectors.
func TestOthersStay(t *testing.T) {
	s := api.DvState{Stable: sectorsOf(64), Power: -1}
	for n := range 64 {
		d := mustLoad(t, s)
		must(t, d.Write(10, filled(50)))
		must(t, d.Flush())
		for i := range 410 {
			if n != 10 && n != 11 {
				must(t, d.Write(n, filled(byte(i))))
			}
		}
		for _, keep := range [][]int{{0}, {}} {
			for k, want := range map[int]api.Sector{10: filled(50), 11: s.Stable[11]} {
				if got, e := d.Read(k); e != api.OK || got != want {
					t.Fatalf("writes of %d: Read %d: %v %d", n, k, got, e)
				}
			}
			if d.Pending() > 0 {
				must(t, d.Crash(keep))
			}
		}
	}
}

// TestCrashes is for P6.6: each set of the writes in a cache that is kept, for writes of few sectors.
func TestCrashes(t *testing.T) {
	next := numbers(77)
	for many := range 9 {
		s := stateOf(many, 20, 0, true)
		for i := range s.Cache {
			s.Cache[i] = api.DvWrite{At: next(3), Data: filled(byte(100 + i))}
		}
		for set := range 1 << many {
			var keep []int
			want := slices.Clone(s.Stable)
			for i, w := range s.Cache {
				if set>>i&1 == 1 {
					keep = append(keep, i)
					want[w.At] = w.Data
				}
			}
			d := mustLoad(t, s)
			must(t, d.Crash(keep))
			readsAs(t, d, want)
			matches(t, d, api.DvState{Stable: want, Taken: 20, Power: -1})
		}
	}
}

// TestFlushed is for P6.6: what was flushed survives every crash, until it is written again.
func TestFlushed(t *testing.T) {
	next := numbers(31)
	for range 60 {
		d := mustNew(t, 64)
		flushed := make([]api.Sector, 64)
		for range 30 {
			n, s := next(64), randomSector(next)
			must(t, d.Write(n, s))
			flushed[n] = s
		}
		must(t, d.Flush())
		again := map[int]bool{}
		for range 5 {
			must(t, d.Limit(int64(next(20))))
			for d.On() {
				n := next(64)
				again[n] = d.Write(n, filled(byte(next(256)))) == api.OK || again[n]
			}
			var keep []int
			for i := range d.Pending() {
				if next(2) == 0 {
					keep = append(keep, i)
				}
			}
			must(t, d.Crash(keep))
			for n, want := range flushed {
				if got, e := d.Read(n); e != api.OK || !again[n] && got != want {
					t.Fatalf("Read %d after a crash: %v %d, want %v", n, got, e, want)
				}
			}
		}
	}
}

// TestAllAndNone is for P6.6: a crash that keeps all is as a flush, and one that keeps nothing undoes all since the last flush.
func TestAllAndNone(t *testing.T) {
	next := numbers(13)
	for _, many := range []int{0, 1, 2, 10, 399, 400} {
		for range 10 {
			first := mustNew(t, 64)
			for range next(50) {
				must(t, first.Write(next(64), randomSector(next)))
			}
			must(t, first.Flush())
			before := first.Save().Stable
			var all []int
			for i := range many {
				must(t, first.Write(next(1+next(64)), randomSector(next)))
				all = append(all, i)
			}
			kept, lost := mustLoad(t, first.Save()), mustLoad(t, first.Save())
			must(t, kept.Crash(all))
			must(t, lost.Crash(nil))
			must(t, first.Flush())
			matches(t, kept, first.Save())
			readsAs(t, lost, before)
			if lost.Pending() != 0 || lost.Taken() != first.Taken() {
				t.Fatalf("Pending %d, Taken %d", lost.Pending(), lost.Taken())
			}
		}
	}
}

// TestJustSoMany is for P6.7: after Limit to n the device takes just n writes, and the next one leaves nothing.
func TestJustSoMany(t *testing.T) {
	for _, pending := range []int{0, 1, 399, 400} {
		for _, n := range []int{0, 1, 2, 3, 50, 399, 400, 401, 402, 900} {
			d := mustLoad(t, stateOf(pending, 1000, 0, false))
			must(t, d.Limit(int64(n)))
			for i := range n {
				must(t, d.Write(i%64, filled(byte(i))))
				if i%90 == 89 {
					must(t, d.Flush())
				}
			}
			if !d.On() || d.Taken() != int64(1000+n) || d.Save().Power != 0 {
				t.Fatalf("limit %d: On %v, Taken %d, Power %d", n, d.On(), d.Taken(), d.Save().Power)
			}
			before := d.Save()
			if e := d.Write(7, filled(200)); e != api.ErrPower || d.On() {
				t.Fatalf("limit %d, one more: %d, On %v", n, e, d.On())
			}
			before.Off = true
			matches(t, d, before)
		}
	}
}

// TestNoLimit is for P6.7: without a limit, or with a new one, the device takes as many as that one says.
func TestNoLimit(t *testing.T) {
	for _, writes := range []int64{-1, 1000, 1001, mostTaken} {
		d := mustNew(t, 64)
		must(t, d.Limit(3))
		must(t, d.Write(0, filled(1)))
		must(t, d.Limit(writes))
		for i := range 1000 {
			must(t, d.Write(i%64, filled(byte(i))))
		}
		if want := max(-1, writes-1000); d.Save().Power != want {
			t.Fatalf("limit %d: Power %d", writes, d.Save().Power)
		}
	}
}

// TestGoesOn is for P6.8: Load of Save goes on alike, from every state of long sequences of calls.
func TestGoesOn(t *testing.T) {
	for seed := range 6 {
		next := numbers(uint64(900 + seed))
		s := api.DvState{Stable: make([]api.Sector, 64), Taken: mostTaken - 900, Power: -1}
		d := mustLoad(t, s)
		for range 300 {
			o := mustLoad(t, d.Save())
			for range 5 {
				c := randomCall(next, d.Save())
				if a, b := c.do(d), c.do(o); a != b {
					t.Fatalf("%s: %d and %d", c.name, a, b)
				}
			}
			matches(t, o, d.Save())
		}
	}
}

// spoil fills all the memory of a state.
func spoil(s api.DvState) {
	for i := range s.Stable[:cap(s.Stable)] {
		s.Stable[:cap(s.Stable)][i] = filled(0xee)
	}
	for i := range s.Cache[:cap(s.Cache)] {
		s.Cache[:cap(s.Cache)][i] = api.DvWrite{At: 1, Data: filled(0xdd)}
	}
}

// TestFreshStates is for P6.8: a device shares no memory with the states that it comes from, or that it returned.
func TestFreshStates(t *testing.T) {
	for _, many := range []int{0, 1, 9, 400} {
		s := stateOf(many, 5, -1, false)
		given := copyOf(s)
		d := mustLoad(t, given)
		spoil(given)
		matches(t, d, s)
		first, second := d.Save(), d.Save()
		spoil(first)
		matches(t, d, s)
		if !sameState(second, s) {
			t.Fatal("a state that was returned has changed another one")
		}
		must(t, d.Write(2, filled(70)))
		must(t, d.Flush())
		must(t, d.Write(1, filled(71)))
		must(t, d.Write(1, filled(72)))
		must(t, d.Crash([]int{0}))
		if !sameState(second, s) {
			t.Fatal("a state that was returned has changed with the device")
		}
	}
}

// TestArgumentStays is for P6.8: a state that was loaded stays as it is, with the room behind its lists.
func TestArgumentStays(t *testing.T) {
	for _, many := range []int{0, 1, 9} {
		s := stateOf(many, 5, -1, false)
		stable := append(copyOf(s).Stable, filled(1), filled(2))
		cache := append(copyOf(s).Cache, writesOf(20, 64)...)
		keptStable, keptCache := slices.Clone(stable), slices.Clone(cache)
		s.Stable, s.Cache = stable[:64], cache[:many]
		d := mustLoad(t, s)
		for i := range 10 {
			must(t, d.Write(i, filled(90)))
		}
		must(t, d.Flush())
		must(t, d.Write(20, filled(91)))
		if !slices.Equal(stable, keptStable) || !slices.Equal(cache, keptCache) {
			t.Fatal("a state that was loaded has changed")
		}
	}
}

// TestFreshKeep is for P6.8: the indices of Crash are neither changed nor kept, and those of Diff are new.
func TestFreshKeep(t *testing.T) {
	d, o := mustLoad(t, stateOf(5, 5, -1, false)), mustNew(t, 64)
	want, e := d.Diff(o)
	must(t, e)
	want = slices.Clone(want)
	got, _ := d.Diff(o)
	got = got[:cap(got)]
	for i := range got {
		got[i] = -5
	}
	if again, e := d.Diff(o); e != api.OK || !slices.Equal(again, want) {
		t.Fatalf("Diff: %v %d, want %v", again, e, want)
	}
	room := []int{0, 2, 4, 99, 98}
	must(t, d.Crash(room[:3]))
	if !slices.Equal(room, []int{0, 2, 4, 99, 98}) {
		t.Fatalf("Crash has changed its argument: %v", room)
	}
	before := d.Save()
	clear(room)
	matches(t, d, before)
}

// TestIndependent is for P6.8: what is done with a device changes no other one.
func TestIndependent(t *testing.T) {
	s := stateOf(4, 5, -1, false)
	a, b := mustLoad(t, s), mustLoad(t, s)
	fresh := mustNew(t, 64)
	must(t, a.Write(3, filled(33)))
	must(t, a.Limit(0))
	if e := a.Write(3, filled(34)); e != api.ErrPower {
		t.Fatalf("Write: %d", e)
	}
	matches(t, b, s)
	must(t, b.Flush())
	must(t, b.Crash(nil))
	if a.On() || a.Pending() != 5 {
		t.Fatalf("On %v, Pending %d", a.On(), a.Pending())
	}
	matches(t, fresh, api.DvState{Stable: make([]api.Sector, 64), Power: -1})
}
