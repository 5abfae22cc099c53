package frames_test

import (
	"math"
	"slices"
	"strings"
	"testing"
	"unsafe"

	"limewash/api"
	"limewash/device"
	"limewash/frames"
)

// mostTaken is how many writes a device takes at most.
const mostTaken = 1_000_000_000_000

func mustLoad(t *testing.T, s api.DvState) *device.Dev {
	t.Helper()
	d, e := device.Load(s)
	if e != api.OK {
		t.Fatalf("Load: %d", e)
	}
	return d
}

func must(t *testing.T, e api.Errno) {
	t.Helper()
	if e != api.OK {
		t.Fatalf("error %d", e)
	}
}

func sameState(a, b api.DvState) bool {
	return slices.Equal(a.Stable, b.Stable) && slices.Equal(a.Cache, b.Cache) && a.Taken == b.Taken && a.Power == b.Power && a.Off == b.Off
}

// states are states of devices of many sectors: full of frames at their places and others, with and without power, and off.
func states(many int) []api.DvState {
	next := numbers(uint64(many))
	var l []api.DvState
	for i, power := range []int64{-1, 0, 1, 5, -1, 0, -1} {
		s := api.DvState{Stable: make([]api.Sector, many), Power: power, Taken: int64(i) * 1000, Off: i == 4 || i == 5}
		for n := range s.Stable {
			s.Stable[n] = someSector(n, next)
		}
		for range next(20) {
			n := next(many)
			s.Cache = append(s.Cache, api.DvWrite{At: n, Data: someSector(n, next)})
		}
		if i == 6 {
			s.Taken = mostTaken
		}
		l = append(l, s)
	}
	full := l[0]
	full.Cache = nil
	for i := range 400 {
		full.Cache = append(full.Cache, api.DvWrite{At: i % many, Data: someSector(i%many, next)})
	}
	return append(l, full)
}

// someSector is a sector for the place n: blank, with a frame, with one of another place, of a wrong form, or with a wrong crc.
func someSector(n int, next func(int) int) api.Sector {
	s := sectorOf(n, randomFrame(next))
	switch next(6) {
	case 0:
		return api.Sector{}
	case 1:
		return sectorOf((n+1+next(254))%256, randomFrame(next))
	case 2:
		s[3] = 1
		return summed(s)
	case 3:
		s[next(sectorSize)]++
	}
	return s
}

// comparePut compares Put with what it is to do with a device with the state s: to write the sector at, as Write does.
func comparePut(t *testing.T, s api.DvState, at, kind int, seq uint32, data string) {
	t.Helper()
	want := mustLoad(t, s)
	sector, wantE := wantSeal(at, kind, seq, data)
	if wantE == api.OK {
		wantE = want.Write(at, sector)
	}
	d := mustLoad(t, s)
	if e := frames.Put(d, at, kind, seq, data); e != wantE || !sameState(d.Save(), want.Save()) {
		t.Fatalf("Put(%d, %d, %d, %.200q) into %d sectors, Power %d, Off %v: %d, want %d, or another state", at, kind, seq, data, len(s.Stable), s.Power, s.Off, e, wantE)
	}
}

// TestPut is for P7.3: Put into devices in all their states, with arguments at all limits.
func TestPut(t *testing.T) {
	places := append([]int{0, 1, 63, 64, 65, 99, 100, 254, 255}, wrongNumbers...)
	for _, many := range []int{64, 100, 256} {
		for _, s := range states(many) {
			for _, at := range places {
				for _, kind := range []int{-1, 0, 1, 2, 255, 256, 257} {
					for _, n := range []int{0, 2, 112, 113, 500} {
						comparePut(t, s, at, kind, uint32(n)*9999999, strings.Repeat("d", n))
					}
				}
			}
		}
	}
}

// TestPutErrors is for P7.3: the errors of Seal come first, then those of Write, and only Write takes the power away.
func TestPutErrors(t *testing.T) {
	long := strings.Repeat("l", 113)
	on := mustLoad(t, api.DvState{Stable: make([]api.Sector, 64), Power: -1})
	empty := mustLoad(t, api.DvState{Stable: make([]api.Sector, 64), Power: 0})
	off := mustLoad(t, api.DvState{Stable: make([]api.Sector, 64), Power: 3, Off: true})
	for _, c := range []struct {
		d        *device.Dev
		at, kind int
		data     string
		want     api.Errno
	}{
		{nil, 256, 1, "", api.ErrRange}, {nil, -1, 1, long, api.ErrRange}, {nil, 3, 0, long, api.ErrRange}, {nil, 3, 256, "", api.ErrRange},
		{nil, 3, 1, long, api.ErrLong}, {nil, 3, 1, "", api.ErrNil}, {nil, 255, 1, "", api.ErrNil}, {new(device.Dev), 3, 1, "", api.ErrNil},
		{new(device.Dev), 3, 1, long, api.ErrLong}, {new(device.Dev), 3, 0, "", api.ErrRange},
		{off, 256, 1, "", api.ErrRange}, {off, 3, 0, "", api.ErrRange}, {off, 3, 1, long, api.ErrLong}, {off, 64, 1, "", api.ErrPower}, {off, 3, 1, "", api.ErrPower},
		{on, 64, 1, long, api.ErrLong}, {on, 64, 0, "", api.ErrRange}, {on, 64, 1, "", api.ErrRange}, {on, 255, 1, "", api.ErrRange}, {on, 63, 1, "", api.OK},
		{empty, 63, 1, long, api.ErrLong}, {empty, 63, 0, "", api.ErrRange}, {empty, 64, 1, "", api.ErrRange},
	} {
		if e := frames.Put(c.d, c.at, c.kind, 5, c.data); e != c.want {
			t.Errorf("Put(%d, %d, %d bytes): %d, want %d", c.at, c.kind, len(c.data), e, c.want)
		}
	}
	if !empty.On() || empty.Taken() != 0 {
		t.Error("a call that did not write has taken the power away")
	}
	if e := frames.Put(empty, 63, 1, 5, ""); e != api.ErrPower || empty.On() {
		t.Errorf("Put without power: %d, On %v", e, empty.On())
	}
	if on.Taken() != 1 || on.Pending() != 1 || off.Taken() != 0 {
		t.Errorf("Taken %d, Pending %d, Taken when off %d", on.Taken(), on.Pending(), off.Taken())
	}
}

// compareGet compares Get with what it is to return of a device with the state s.
func compareGet(t *testing.T, s api.DvState, at int) {
	t.Helper()
	d := mustLoad(t, s)
	sector, wantE := d.Read(at)
	var want api.FrFrame
	if wantE == api.OK {
		want, wantE = wantOpen(at, sector)
	}
	if f, e := frames.Get(d, at); f != want || e != wantE {
		t.Fatalf("Get(%d) of %d sectors, Off %v: %v %d, want %v %d", at, len(s.Stable), s.Off, f, e, want, wantE)
	}
	if !sameState(d.Save(), s) {
		t.Fatalf("Get(%d) has changed the device", at)
	}
}

// TestGet is for P7.3: Get of each sector of devices in all their states.
func TestGet(t *testing.T) {
	for _, many := range []int{64, 100, 256} {
		for _, s := range states(many) {
			for at := -2; at < 260; at++ {
				compareGet(t, s, at)
			}
			for _, at := range wrongNumbers {
				compareGet(t, s, at)
			}
		}
	}
}

// TestGetErrors is for P7.3: the errors of Read come first, then those of Open.
func TestGetErrors(t *testing.T) {
	f := api.FrFrame{Kind: 1, Seq: 2, Data: "get"}
	stable := make([]api.Sector, 64)
	stable[1], stable[2], stable[3], stable[4] = sectorOf(1, f), sectorOf(1, f), summed(api.Sector{1}), api.Sector{1}
	on := mustLoad(t, api.DvState{Stable: stable, Power: 0})
	off := mustLoad(t, api.DvState{Stable: stable, Power: -1, Off: true})
	made := *on
	for at, want := range map[int]api.Errno{-1: api.ErrRange, 0: errBlank, 1: api.OK, 2: errPlace, 3: api.ErrForm, 4: errSum, 63: errBlank, 64: api.ErrRange, 255: api.ErrRange, 256: api.ErrRange, math.MaxInt: api.ErrRange} {
		for _, c := range []struct {
			d    *device.Dev
			want api.Errno
		}{{on, want}, {off, api.ErrPower}, {nil, api.ErrNil}, {new(device.Dev), api.ErrNil}, {&made, api.ErrNil}} {
			wantFrame := api.FrFrame{}
			if c.want == api.OK {
				wantFrame = f
			}
			if got, e := frames.Get(c.d, at); e != c.want || got != wantFrame {
				t.Errorf("Get(%d): %v %d, want %v %d", at, got, e, wantFrame, c.want)
			}
		}
	}
	if !on.On() {
		t.Error("Get has taken the power away")
	}
}

// TestPutGet is for P7.3 and P7.4: what was put last is got, also after a flush and a crash, and all others stay.
func TestPutGet(t *testing.T) {
	next := numbers(8)
	for _, many := range []int{64, 200, 256} {
		d, e := device.New(many)
		must(t, e)
		got, flushed := map[int]api.FrFrame{}, map[int]api.FrFrame{}
		for i := range 900 {
			at, f := next(many), randomFrame(next)
			must(t, frames.Put(d, at, f.Kind, f.Seq, f.Data))
			got[at] = f
			switch {
			case i%50 == 49:
				must(t, d.Flush())
				flushed = copyMap(got)
			case i%333 == 332:
				must(t, d.Crash(nil))
				got = copyMap(flushed)
			}
			if i%25 != 0 && i%333 != 332 {
				continue
			}
			for n := range many {
				want, wantE := got[n], api.OK
				if want.Kind == 0 {
					wantE = errBlank
				}
				if f, e := frames.Get(d, n); f != want || e != wantE {
					t.Fatalf("Get(%d): %v %d, want %v %d", n, f, e, want, wantE)
				}
			}
		}
	}
}

func copyMap(m map[int]api.FrFrame) map[int]api.FrFrame {
	c := map[int]api.FrFrame{}
	for k, v := range m {
		c[k] = v
	}
	return c
}

// TestNeverWritten is for P7.7: a sector of which nothing was ever written is blank, also if others were, and if a write of it was lost.
func TestNeverWritten(t *testing.T) {
	for _, many := range []int{64, 65, 256} {
		d, e := device.New(many)
		must(t, e)
		for n := range many {
			if f, e := frames.Get(d, n); f != (api.FrFrame{}) || e != errBlank {
				t.Fatalf("Get(%d) of a new device: %v %d", n, f, e)
			}
		}
		for n := range many {
			if n%3 == 0 {
				must(t, frames.Put(d, n, 1, uint32(n), "other"))
			}
		}
		must(t, d.Flush())
		must(t, frames.Put(d, 1, 1, 1, "lost"))
		must(t, d.Crash(nil))
		must(t, d.Limit(0))
		if e := frames.Put(d, 2, 1, 1, "without power"); e != api.ErrPower {
			t.Fatalf("Put without power: %d", e)
		}
		must(t, d.Crash(nil))
		for n := range many {
			want := errBlank
			if n%3 == 0 {
				want = api.OK
			}
			if _, e := frames.Get(d, n); e != want {
				t.Fatalf("Get(%d): %d, want %d", n, e, want)
			}
		}
	}
}

// TestFresh is for P7.7: bytes of results are neither those of arguments nor those of other results, and nothing is kept.
func TestFresh(t *testing.T) {
	given := []byte(strings.Repeat("fresh", 20))
	data := unsafe.String(&given[0], len(given))
	d, e := device.New(64)
	must(t, e)
	must(t, frames.Put(d, 5, 6, 7, data))
	s, e := frames.Seal(5, 6, 7, data)
	must(t, e)
	if string(given) != strings.Repeat("fresh", 20) {
		t.Fatal("an argument was changed")
	}
	for i := range given {
		given[i] = 'x'
	}
	want := api.FrFrame{Kind: 6, Seq: 7, Data: strings.Repeat("fresh", 20)}
	opens(t, 5, s, want)
	var l []*byte
	for range 3 {
		f, e := frames.Open(5, s)
		must(t, e)
		g, e := frames.Get(d, 5)
		must(t, e)
		if f != want || g != want {
			t.Fatalf("%v and %v, want %v", f, g, want)
		}
		l = append(l, unsafe.StringData(f.Data), unsafe.StringData(g.Data))
	}
	for i, a := range l {
		if slices.Contains(l[:i], a) {
			t.Fatal("two results share their bytes")
		}
	}
}

// TestSame is for P7.7: the same arguments have the same results, whatever was called before.
func TestSame(t *testing.T) {
	next := numbers(9)
	for range 300 {
		at, f := next(256), randomFrame(next)
		s := mustSeal(t, at, f)
		frames.Open(next(256), someSector(at, next))
		frames.Seal(next(300), next(300), 8, strings.Repeat("z", next(130)))
		if again := mustSeal(t, at, f); again != s {
			t.Fatalf("Seal of %v at %d: %v, then %v", f, at, s, again)
		}
		opens(t, at, s, f)
		opens(t, at, s, f)
	}
}
