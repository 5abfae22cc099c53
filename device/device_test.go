package device_test

import (
	"math"
	"slices"
	"testing"

	"limewash/api"
	"limewash/device"
)

// The limits of the chapter, written out.
const (
	leastSectors = 64
	mostSectors  = 256
	mostCache    = 400
	mostTaken    = 1_000_000_000_000
)

// filled is a sector whose bytes are all b.
func filled(b byte) api.Sector {
	var s api.Sector
	for i := range s {
		s[i] = b
	}
	return s
}

// numbers yields numbers that look random, and are the same in each run.
func numbers(seed uint64) func(n int) int {
	return func(n int) int {
		seed = seed*6364136223846793005 + 1442695040888963407
		return int(seed>>33) % n
	}
}

// randomSector is a sector in which few bytes are not 0.
func randomSector(next func(int) int) api.Sector {
	var s api.Sector
	for range 3 {
		s[next(len(s))] = byte(next(256))
	}
	return s
}

// sectorsOf is n different sectors.
func sectorsOf(n int) []api.Sector {
	l := make([]api.Sector, n)
	for i := range l {
		l[i] = filled(byte(i))
		l[i][127] = 99
	}
	return l
}

// writesOf is n writes into a device with many sectors.
func writesOf(n, many int) []api.DvWrite {
	l := make([]api.DvWrite, n)
	for i := range l {
		l[i] = api.DvWrite{At: i * 7 % many, Data: filled(byte(i + 100))}
		l[i].Data[0] = byte(i / 256)
	}
	return l
}

func copyOf(s api.DvState) api.DvState {
	s.Stable = append([]api.Sector(nil), s.Stable...)
	s.Cache = append([]api.DvWrite(nil), s.Cache...)
	return s
}

func sameState(a, b api.DvState) bool {
	return slices.Equal(a.Stable, b.Stable) && slices.Equal(a.Cache, b.Cache) && a.Taken == b.Taken && a.Power == b.Power && a.Off == b.Off
}

// isZero says whether s is the zero state.
func isZero(s api.DvState) bool {
	return len(s.Stable) == 0 && sameState(s, api.DvState{})
}

// reads is what the sector n of a state reads as: its newest write, or else the stable sector.
func reads(s api.DvState, n int) api.Sector {
	for i := len(s.Cache) - 1; i >= 0; i-- {
		if s.Cache[i].At == n {
			return s.Cache[i].Data
		}
	}
	return s.Stable[n]
}

// matches fails if d is not the device with the state s.
func matches(t *testing.T, d *device.Dev, s api.DvState) {
	t.Helper()
	if got := d.Save(); !sameState(got, s) {
		t.Fatalf("Save: %d sectors, %d in the cache, Taken %d, Power %d, Off %v; want %d, %d, %d, %d, %v, or other bytes",
			len(got.Stable), len(got.Cache), got.Taken, got.Power, got.Off, len(s.Stable), len(s.Cache), s.Taken, s.Power, s.Off)
	}
	if d.Sectors() != len(s.Stable) || d.Pending() != len(s.Cache) || d.Taken() != s.Taken || d.On() != !s.Off {
		t.Fatalf("Sectors %d, Pending %d, Taken %d, On %v; want %d, %d, %d, %v",
			d.Sectors(), d.Pending(), d.Taken(), d.On(), len(s.Stable), len(s.Cache), s.Taken, !s.Off)
	}
	for n := -1; n <= len(s.Stable); n++ {
		var want api.Sector
		wantErr := api.OK
		switch {
		case s.Off:
			wantErr = api.ErrPower
		case n < 0 || n == len(s.Stable):
			wantErr = api.ErrRange
		default:
			want = reads(s, n)
		}
		if got, e := d.Read(n); e != wantErr || got != want {
			t.Fatalf("Read %d: %v %d, want %v %d", n, got, e, want, wantErr)
		}
	}
}

func mustNew(t *testing.T, n int) *device.Dev {
	t.Helper()
	d, e := device.New(n)
	if e != api.OK || d == nil {
		t.Fatalf("New %d: %v %d", n, d, e)
	}
	return d
}

func mustLoad(t *testing.T, s api.DvState) *device.Dev {
	t.Helper()
	d, e := device.Load(s)
	if e != api.OK || d == nil {
		t.Fatalf("Load: %v %d", d, e)
	}
	return d
}

func must(t *testing.T, e api.Errno) {
	t.Helper()
	if e != api.OK {
		t.Fatalf("error %d", e)
	}
}

// notMade is devices that the package has not returned: nil, a zero value, and a copy of one that it has.
func notMade(t *testing.T) []*device.Dev {
	d := mustNew(t, 64)
	must(t, d.Write(3, filled(1)))
	c := *d
	return []*device.Dev{nil, {}, new(device.Dev), &c}
}

// TestNew is for P6.1: how many sectors a device may have, and what a new one is.
func TestNew(t *testing.T) {
	for n := -300; n <= 600; n++ {
		d, e := device.New(n)
		if n < leastSectors || n > mostSectors {
			if d != nil || e != api.ErrRange {
				t.Fatalf("New %d: %v %d", n, d, e)
			}
			continue
		}
		must(t, e)
		matches(t, d, api.DvState{Stable: make([]api.Sector, n), Power: -1})
	}
	for _, n := range []int{math.MinInt, math.MinInt + 1, math.MaxInt, math.MaxInt32, -1 << 31, 1<<8 + 1<<32} {
		if d, e := device.New(n); d != nil || e != api.ErrRange {
			t.Fatalf("New %d: %v %d", n, d, e)
		}
	}
}

// wantLoad is the error of Load of s.
func wantLoad(s api.DvState) api.Errno {
	if len(s.Stable) < leastSectors || len(s.Stable) > mostSectors {
		return api.ErrRange
	}
	if s.Taken < 0 || s.Taken > mostTaken {
		return api.ErrRange
	}
	if s.Power != -1 && (s.Power < 0 || s.Power > mostTaken) {
		return api.ErrRange
	}
	for _, w := range s.Cache {
		if w.At < 0 || w.At > len(s.Stable)-1 {
			return api.ErrRange
		}
	}
	if len(s.Cache) > mostCache {
		return api.ErrLong
	}
	return api.OK
}

// compareLoad compares Load of s with what it should return.
func compareLoad(t *testing.T, s api.DvState) {
	t.Helper()
	kept := copyOf(s)
	d, e := device.Load(s)
	want := wantLoad(s)
	if e != want || (e != api.OK) != (d == nil) {
		t.Fatalf("Load of %d sectors, %d writes, Taken %d, Power %d, Off %v: %d, want %d", len(s.Stable), len(s.Cache), s.Taken, s.Power, s.Off, e, want)
	}
	if !sameState(s, kept) {
		t.Fatal("Load has changed its argument")
	}
	if e == api.OK {
		matches(t, d, s)
	}
}

// TestLoad is for P6.1: each limit of a state, with all the others, and what is found first.
func TestLoad(t *testing.T) {
	for _, sectors := range []int{0, 1, 63, 64, 65, 200, 256, 257, 1000} {
		for _, writes := range []int{0, 1, 2, 399, 400, 401, 1000} {
			for _, taken := range []int64{math.MinInt64, -1, 0, 1, 400, mostTaken - 1, mostTaken, mostTaken + 1, math.MaxInt64} {
				for _, power := range []int64{math.MinInt64, -2, -1, 0, 1, mostTaken - 1, mostTaken, mostTaken + 1, math.MaxInt64} {
					s := api.DvState{Stable: sectorsOf(sectors), Cache: writesOf(writes, max(sectors, 1)), Taken: taken, Power: power}
					s.Off = (taken+power)%2 == 0
					if want := wantLoad(s); want == api.OK && writes > 2 && taken != 400 {
						continue // Each of these is compared with a few of the numbers.
					}
					compareLoad(t, s)
				}
			}
		}
	}
}

// TestLoadOff is for P6.1: a device may be off with any power, and have none and be on.
func TestLoadOff(t *testing.T) {
	for _, power := range []int64{-1, 0, 1, mostTaken} {
		for _, taken := range []int64{0, 5, mostTaken} {
			for _, off := range []bool{false, true} {
				compareLoad(t, api.DvState{Stable: sectorsOf(64), Cache: writesOf(3, 64), Taken: taken, Power: power, Off: off})
			}
		}
	}
}

// TestLoadWrites is for P6.1: the number of a sector of each write, also behind the limit of the cache.
func TestLoadWrites(t *testing.T) {
	for _, sectors := range []int{64, 100, 256} {
		for _, writes := range []int{1, 2, 5, 400, 401, 450} {
			for _, i := range []int{0, 1, writes / 2, writes - 2, writes - 1} {
				if i < 0 || i >= writes {
					continue
				}
				for _, at := range []int{math.MinInt, -1, 0, sectors - 1, sectors, sectors + 1, 256, math.MaxInt} {
					s := api.DvState{Stable: sectorsOf(sectors), Cache: writesOf(writes, sectors), Power: -1}
					s.Cache[i].At = at
					compareLoad(t, s)
				}
			}
		}
	}
}

// TestDiff is for P6.4: the numbers of the sectors that read as different bytes.
func TestDiff(t *testing.T) {
	next := numbers(4)
	for round := range 300 {
		n := 64 + next(193)
		a, b := api.DvState{Stable: sectorsOf(n), Power: -1}, api.DvState{Stable: sectorsOf(n), Power: 0}
		for range next(30) {
			a.Cache = append(a.Cache, api.DvWrite{At: next(n), Data: filled(byte(next(3)))})
			b.Cache = append(b.Cache, api.DvWrite{At: next(n), Data: filled(byte(next(3)))})
			b.Stable[next(n)][next(128)] ^= byte(next(3))
		}
		a.Off, b.Off = round%2 == 1, round%3 == 1
		var want []int
		for i := range n {
			if reads(a, i) != reads(b, i) {
				want = append(want, i)
			}
		}
		d, o := mustLoad(t, a), mustLoad(t, b)
		for _, f := range []func() ([]int, api.Errno){func() ([]int, api.Errno) { return d.Diff(o) }, func() ([]int, api.Errno) { return o.Diff(d) }} {
			if got, e := f(); e != api.OK || !slices.Equal(got, want) {
				t.Fatalf("Diff: %v %d, want %v", got, e, want)
			}
		}
		for _, x := range []*device.Dev{d, o} {
			if got, e := x.Diff(x); e != api.OK || len(got) != 0 {
				t.Fatalf("Diff with itself: %v %d", got, e)
			}
		}
		matches(t, d, a)
		matches(t, o, b)
	}
}

// TestDiffBytes is for P6.4: each byte of each sector counts, in the cache and stable, and nothing else does.
func TestDiffBytes(t *testing.T) {
	d := mustNew(t, 64)
	for n := range 64 {
		for i := range 128 {
			var s api.Sector
			s[i] = 1
			stable := api.DvState{Stable: make([]api.Sector, 64), Power: -1}
			cached := copyOf(stable)
			stable.Stable[n] = s
			stable.Off = true
			cached.Cache = []api.DvWrite{{At: n, Data: filled(4)}, {At: n, Data: s}}
			cached.Taken = 2
			o, p := mustLoad(t, stable), mustLoad(t, cached)
			for _, x := range []*device.Dev{o, p} {
				if got, e := d.Diff(x); e != api.OK || !slices.Equal(got, []int{n}) {
					t.Fatalf("Diff with the byte %d of sector %d: %v %d", i, n, got, e)
				}
			}
			if got, e := o.Diff(p); e != api.OK || len(got) != 0 {
				t.Fatalf("Diff of a stable sector and one in the cache: %v %d", got, e)
			}
		}
	}
}

// TestDiffErrors is for P6.4: devices that are not, and devices with other numbers of sectors.
func TestDiffErrors(t *testing.T) {
	made := []*device.Dev{mustNew(t, 64), mustNew(t, 65), mustNew(t, 256)}
	for i, d := range made {
		for k, o := range made {
			want := api.ErrForm
			if i == k {
				want = api.OK
			}
			if got, e := d.Diff(o); e != want || len(got) != 0 {
				t.Fatalf("Diff of %d and %d sectors: %v %d", d.Sectors(), o.Sectors(), got, e)
			}
		}
		for _, o := range notMade(t) {
			if got, e := d.Diff(o); e != api.ErrNil || len(got) != 0 {
				t.Fatalf("Diff with a device that was not returned: %v %d", got, e)
			}
			if got, e := o.Diff(d); e != api.ErrNil || len(got) != 0 {
				t.Fatalf("Diff of a device that was not returned: %v %d", got, e)
			}
			if got, e := o.Diff(o); e != api.ErrNil || len(got) != 0 {
				t.Fatalf("Diff of two devices that were not returned: %v %d", got, e)
			}
		}
	}
}

// TestNotMade is for P6.1 to P6.4: what methods of devices return that the package has not returned, whatever else is wrong.
func TestNotMade(t *testing.T) {
	for i, d := range notMade(t) {
		for _, n := range []int{-1, 0, 3, 63, 64, 1000} {
			if s, e := d.Read(n); e != api.ErrNil || s != (api.Sector{}) {
				t.Fatalf("device %d: Read: %v %d", i, s, e)
			}
			if e := d.Write(n, filled(1)); e != api.ErrNil {
				t.Fatalf("device %d: Write: %d", i, e)
			}
			if e := d.Limit(int64(n - 1)); e != api.ErrNil {
				t.Fatalf("device %d: Limit: %d", i, e)
			}
			if e := d.Crash([]int{n, 0, n}); e != api.ErrNil {
				t.Fatalf("device %d: Crash: %d", i, e)
			}
			if e := d.Crash(nil); e != api.ErrNil {
				t.Fatalf("device %d: Crash: %d", i, e)
			}
			if e := d.Flush(); e != api.ErrNil {
				t.Fatalf("device %d: Flush: %d", i, e)
			}
		}
		if !isZero(d.Save()) || d.Sectors() != 0 || d.Pending() != 0 || d.Taken() != 0 || d.On() {
			t.Fatalf("device %d: %v %d %d %d %v", i, d.Save(), d.Sectors(), d.Pending(), d.Taken(), d.On())
		}
	}
}

// TestCounts is for P6.4: Sectors, Pending, Taken and On of devices in all their states, also when they are off.
func TestCounts(t *testing.T) {
	for _, sectors := range []int{64, 100, 256} {
		for _, writes := range []int{0, 1, 64, 400} {
			for _, taken := range []int64{0, 7, mostTaken} {
				for _, off := range []bool{false, true} {
					d := mustLoad(t, api.DvState{Stable: make([]api.Sector, sectors), Cache: writesOf(writes, sectors), Taken: taken, Power: 3, Off: off})
					if d.Sectors() != sectors || d.Pending() != writes || d.Taken() != taken || d.On() == off {
						t.Fatalf("%d %d %d %v, want %d %d %d %v", d.Sectors(), d.Pending(), d.Taken(), d.On(), sectors, writes, taken, !off)
					}
				}
			}
		}
	}
}
