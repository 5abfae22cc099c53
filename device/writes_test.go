package device_test

import (
	"math"
	"slices"
	"testing"

	"limewash/api"
	"limewash/device"
)

// call is a call that changes a device.
type call struct {
	name   string
	at     int
	data   api.Sector
	writes int64
	keep   []int
}

func write(at int, s api.Sector) call { return call{name: "Write", at: at, data: s} }
func flush() call                     { return call{name: "Flush"} }
func limit(writes int64) call         { return call{name: "Limit", writes: writes} }
func crash(keep ...int) call          { return call{name: "Crash", keep: keep} }

// do calls d.
func (c call) do(d *device.Dev) api.Errno {
	switch c.name {
	case "Write":
		return d.Write(c.at, c.data)
	case "Flush":
		return d.Flush()
	case "Limit":
		return d.Limit(c.writes)
	}
	return d.Crash(c.keep)
}

// want changes s as the chapter says, and returns the error.
func (c call) want(s *api.DvState) api.Errno {
	switch c.name {
	case "Write":
		return wantWrite(s, c.at, c.data)
	case "Flush":
		if s.Off {
			return api.ErrPower
		}
		for _, w := range s.Cache {
			s.Stable[w.At] = w.Data
		}
		s.Cache = nil
		return api.OK
	case "Limit":
		if c.writes < -1 || c.writes > mostTaken {
			return api.ErrRange
		}
		s.Power = c.writes
		return api.OK
	}
	return wantCrash(s, c.keep)
}

func wantWrite(s *api.DvState, at int, data api.Sector) api.Errno {
	if s.Off {
		return api.ErrPower
	}
	if at < 0 || at >= len(s.Stable) {
		return api.ErrRange
	}
	if s.Power == 0 || s.Taken == mostTaken {
		s.Off = true
		return api.ErrPower
	}
	if len(s.Cache) == mostCache {
		for _, w := range s.Cache {
			s.Stable[w.At] = w.Data
		}
		s.Cache = nil
	}
	s.Cache = append(s.Cache, api.DvWrite{At: at, Data: data})
	s.Taken = s.Taken + 1
	if s.Power > 0 {
		s.Power = s.Power - 1
	}
	return api.OK
}

func wantCrash(s *api.DvState, keep []int) api.Errno {
	for _, k := range keep {
		if k < 0 || k >= len(s.Cache) {
			return api.ErrRange
		}
	}
	for i := range keep {
		for k := range i {
			if keep[k] >= keep[i] {
				return api.ErrForm
			}
		}
	}
	for i, w := range s.Cache {
		if slices.Contains(keep, i) {
			s.Stable[w.At] = w.Data
		}
	}
	s.Cache = nil
	s.Power = -1
	s.Off = false
	return api.OK
}

// compareCall compares c with what it should do to d, which has the state s.
func compareCall(t *testing.T, d *device.Dev, s *api.DvState, c call) {
	t.Helper()
	kept := slices.Clone(c.keep)
	want := c.want(s)
	if e := c.do(d); e != want {
		t.Fatalf("%s (sector %d, limit %d, keep %v): %d, want %d", c.name, c.at, c.writes, c.keep, e, want)
	}
	if !slices.Equal(c.keep, kept) {
		t.Fatalf("Crash has changed its argument %v to %v", kept, c.keep)
	}
	matches(t, d, *s)
}

// compareCalls compares each of l, one after the other, from the state s on.
func compareCalls(t *testing.T, s api.DvState, l ...call) {
	t.Helper()
	s = copyOf(s)
	d := mustLoad(t, s)
	for _, c := range l {
		compareCall(t, d, &s, c)
	}
}

// stateOf is a device of 64 sectors with many writes in its cache.
func stateOf(many int, taken, power int64, off bool) api.DvState {
	return api.DvState{Stable: sectorsOf(64), Cache: writesOf(many, 64), Taken: taken, Power: power, Off: off}
}

// TestRead is for P6.2: sectors that there are, and are not, of devices that are on and off.
func TestRead(t *testing.T) {
	for _, off := range []bool{false, true} {
		d := mustLoad(t, stateOf(10, 10, 0, off))
		for _, n := range []int{math.MinInt, -1 << 32, -64, -1, 64, 65, 256, 1 << 32, math.MaxInt} {
			want := api.ErrRange
			if off {
				want = api.ErrPower
			}
			if s, e := d.Read(n); e != want || s != (api.Sector{}) {
				t.Fatalf("Read %d, off %v: %v %d", n, off, s, e)
			}
		}
		matches(t, d, stateOf(10, 10, 0, off))
	}
}

// TestReadNewest is for P6.2: the newest write of a sector is read, wherever it is in the cache.
func TestReadNewest(t *testing.T) {
	next := numbers(8)
	for _, many := range []int{0, 1, 2, 10, 64, 399, 400} {
		for range 10 {
			s := stateOf(many, 0, -1, false)
			for i := range s.Cache {
				s.Cache[i] = api.DvWrite{At: next(1 + next(64)), Data: randomSector(next)}
			}
			matches(t, mustLoad(t, s), s)
		}
	}
}

// TestWriteErrors is for P6.2: what is found first, and that a device goes off only when it would have taken the write.
func TestWriteErrors(t *testing.T) {
	for _, off := range []bool{false, true} {
		for _, taken := range []int64{0, mostTaken - 1, mostTaken} {
			for _, power := range []int64{-1, 0, 1, 2, mostTaken} {
				for _, many := range []int{0, 1, 399, 400} {
					for _, at := range []int{math.MinInt, -1, 0, 7, 63, 64, 255, 256, math.MaxInt} {
						compareCalls(t, stateOf(many, taken, power, off), write(at, filled(9)), write(5, filled(8)))
					}
				}
			}
		}
	}
}

// TestWriteOff is for P6.2: each way in which a write makes a device go off, and what it is like then.
func TestWriteOff(t *testing.T) {
	for _, s := range []api.DvState{stateOf(3, 5, 0, false), stateOf(3, mostTaken, 4, false), stateOf(3, mostTaken, -1, false), stateOf(400, 400, 0, false)} {
		d := mustLoad(t, s)
		if e := d.Write(64, filled(9)); e != api.ErrRange || !d.On() {
			t.Fatalf("Write of no sector: %d, On %v", e, d.On())
		}
		if e := d.Write(3, filled(9)); e != api.ErrPower || d.On() {
			t.Fatalf("Write without power: %d, On %v", e, d.On())
		}
		s.Off = true
		matches(t, d, s)
		for _, c := range []call{write(3, filled(9)), write(-1, filled(9)), flush(), limit(7)} {
			compareCall(t, d, &s, c)
		}
		compareCall(t, d, &s, crash(0, 2))
		if !d.On() {
			t.Fatal("off after a crash")
		}
	}
}

// TestFullCache is for P6.2: the write that finds 400 others in the cache makes them stable first.
func TestFullCache(t *testing.T) {
	for _, sectors := range []int{64, 256} {
		s := api.DvState{Stable: make([]api.Sector, sectors), Power: -1}
		d := mustNew(t, sectors)
		next := numbers(6)
		for i := range 1000 {
			w := api.DvWrite{At: next(sectors), Data: randomSector(next)}
			must(t, d.Write(w.At, w.Data))
			if want := i%mostCache + 1; d.Pending() != want {
				t.Fatalf("%d writes: Pending %d, want %d", i+1, d.Pending(), want)
			}
			must(t, wantWrite(&s, w.At, w.Data))
			if i%50 == 0 || i%400 > 397 || i%400 < 2 {
				matches(t, d, s)
			}
		}
		matches(t, d, s)
	}
}

// TestFullCacheLost is for P6.2: when the cache was full, its writes are stable, and survive; the one that came then does not.
func TestFullCacheLost(t *testing.T) {
	s := stateOf(400, 400, -1, false)
	d := mustLoad(t, s)
	must(t, d.Write(5, filled(77)))
	must(t, d.Crash(nil))
	for n := range 64 {
		if got, e := d.Read(n); e != api.OK || got != reads(s, n) {
			t.Fatalf("Read %d: %v %d", n, got, e)
		}
	}
}

// TestFlush is for P6.3: all writes become stable, the oldest one first, whatever power there is.
func TestFlush(t *testing.T) {
	for _, many := range []int{0, 1, 2, 64, 65, 399, 400} {
		for _, power := range []int64{-1, 0, 1, mostTaken} {
			for _, off := range []bool{false, true} {
				compareCalls(t, stateOf(many, 3, power, off), flush(), flush(), crash())
			}
		}
	}
	compareCalls(t, stateOf(5, mostTaken, -1, false), flush(), write(0, filled(3)), flush())
}

// TestLimit is for P6.3: which limits there are, for devices that are on and off.
func TestLimit(t *testing.T) {
	for _, writes := range []int64{math.MinInt64, -mostTaken, -3, -2, -1, 0, 1, 2, 400, mostTaken - 1, mostTaken, mostTaken + 1, 1<<32 - 1, 1 << 32, math.MaxInt64} {
		for _, power := range []int64{-1, 0, 5, mostTaken} {
			for _, off := range []bool{false, true} {
				compareCalls(t, stateOf(4, 9, power, off), limit(writes), write(2, filled(5)), write(2, filled(6)), write(2, filled(7)))
			}
		}
	}
}

// TestCrash is for P6.3: all lists of up to four indices for caches of up to three writes.
func TestCrash(t *testing.T) {
	var lists [][]int
	var longer func(l []int)
	longer = func(l []int) {
		lists = append(lists, slices.Clone(l))
		for k := -1; k <= 3 && len(l) < 4; k++ {
			longer(append(slices.Clone(l), k))
		}
	}
	longer(nil)
	for _, ats := range [][]int{{}, {5}, {5, 5}, {5, 6}, {5, 5, 5}, {5, 6, 5}, {5, 5, 6}, {6, 5, 5}, {1, 0, 63}} {
		s := stateOf(len(ats), 8, 0, false)
		for i, at := range ats {
			s.Cache[i].At = at
		}
		for i, l := range lists {
			s.Off = i%2 == 1
			s.Power = int64(i%4) - 1
			compareCalls(t, s, crash(l...))
		}
	}
}

// TestCrashMany is for P6.3: caches that are full, all of which, none, and some of which is kept.
func TestCrashMany(t *testing.T) {
	next := numbers(3)
	for _, many := range []int{398, 399, 400} {
		var all, some []int
		for i := range many {
			all = append(all, i)
			if next(2) == 0 {
				some = append(some, i)
			}
		}
		s := stateOf(many, 500, 0, true)
		backward := slices.Clone(all)
		slices.Reverse(backward)
		for _, l := range [][]int{nil, {}, all, some, {0}, {many - 1}, {many}, backward, append(slices.Clone(all), many), append(slices.Clone(all), many-1), append(slices.Clone(all), 0)} {
			compareCalls(t, s, crash(l...), write(1, filled(1)), crash(0))
		}
	}
}

// TestCrashErrors is for P6.3: an index that there is not is found before an order that is wrong, wherever it is.
func TestCrashErrors(t *testing.T) {
	for _, bad := range []int{math.MinInt, -1, 3, 4, 400, 1 << 32, math.MaxInt} {
		for _, l := range [][]int{{bad}, {0, bad}, {bad, 0}, {1, 0, bad}, {1, 1, 1, bad}, {bad, bad}, {0, 1, 2, bad}, {2, 1, bad, 0}} {
			d := mustLoad(t, stateOf(3, 3, 0, true))
			if e := d.Crash(l); e != api.ErrRange {
				t.Fatalf("Crash %v: %d", l, e)
			}
			matches(t, d, stateOf(3, 3, 0, true))
		}
	}
	for _, l := range [][]int{{0, 0}, {1, 0}, {2, 2}, {0, 2, 1}, {0, 1, 1}, {0, 0, 1}, {1, 2, 0}, make([]int, 1000)} {
		d := mustLoad(t, stateOf(3, 3, 0, true))
		if e := d.Crash(l); e != api.ErrForm {
			t.Fatalf("Crash %v: %d", l, e)
		}
		matches(t, d, stateOf(3, 3, 0, true))
	}
}

// TestSequences is for P6.2 and P6.3: all sequences of up to three calls of twelve.
func TestSequences(t *testing.T) {
	calls := []call{write(0, filled(1)), write(0, filled(2)), write(63, filled(1)), write(64, filled(1)), flush(), limit(0), limit(1), limit(-1), limit(-2), crash(), crash(0), crash(0, 1), crash(1)}
	for _, s := range []api.DvState{stateOf(0, 0, -1, false), stateOf(2, mostTaken-1, -1, false), stateOf(1, 0, 1, true), stateOf(400, 5, 1, false)} {
		for _, a := range calls {
			for _, b := range calls {
				for _, c := range calls {
					compareCalls(t, s, a, b, c)
				}
			}
		}
	}
}

// randomCall is a call that is mostly a write into one of few sectors of a device with the state s.
func randomCall(next func(int) int, s api.DvState) call {
	switch k := next(40); {
	case k == 0:
		return flush()
	case k < 3:
		return limit(int64(next(40)) - 2)
	case k < 5 || s.Off && k < 20:
		var keep []int
		for i := range s.Cache {
			if next(2) == 0 {
				keep = append(keep, i)
			}
		}
		if next(10) == 0 {
			keep = append(keep, next(5))
		}
		return crash(keep...)
	case k == 20:
		return write(next(2000)-1000, randomSector(next))
	}
	return write(next(1+next(len(s.Stable))), randomSector(next))
}

// TestLongRuns is for P6.2 and P6.3: long sequences of calls.
func TestLongRuns(t *testing.T) {
	for seed := range 12 {
		next := numbers(uint64(seed))
		s := api.DvState{Stable: make([]api.Sector, 64+seed%2*192), Power: -1}
		d := mustNew(t, len(s.Stable))
		for range 400 {
			compareCall(t, d, &s, randomCall(next, s))
		}
	}
}

// TestExamples is for the examples of the chapter.
func TestExamples(t *testing.T) {
	a, b := filled(1), filled(2)
	d := mustNew(t, 64)
	read := func(n int, want api.Sector) {
		t.Helper()
		if s, e := d.Read(n); e != api.OK || s != want {
			t.Fatalf("Read %d: %v %d", n, s, e)
		}
	}
	must(t, d.Write(3, a))
	must(t, d.Write(3, b))
	must(t, d.Write(4, a))
	read(3, b)
	if d.Pending() != 3 {
		t.Fatalf("Pending %d", d.Pending())
	}
	must(t, d.Crash([]int{0, 2}))
	read(3, a)
	read(4, a)
	must(t, d.Write(5, a))
	must(t, d.Flush())
	must(t, d.Write(5, b))
	must(t, d.Crash(nil))
	read(5, a)
	must(t, d.Limit(1))
	must(t, d.Write(6, a))
	if e := d.Write(6, b); e != api.ErrPower {
		t.Fatalf("Write: %d", e)
	}
	if s, e := d.Read(6); e != api.ErrPower || s != (api.Sector{}) || d.On() {
		t.Fatalf("Read: %v %d, On %v", s, e, d.On())
	}
	must(t, d.Crash([]int{0}))
	read(6, a)
	if d.Taken() != 6 {
		t.Fatalf("Taken %d", d.Taken())
	}
	if e := d.Crash([]int{0}); e != api.ErrRange {
		t.Fatalf("Crash: %d", e)
	}
	if e := d.Write(64, a); e != api.ErrRange {
		t.Fatalf("Write: %d", e)
	}
	if x, e := device.New(63); x != nil || e != api.ErrRange {
		t.Fatalf("New: %v %d", x, e)
	}
}
