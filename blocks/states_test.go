package blocks_test

import (
	"bytes"
	"slices"
	"strings"
	"testing"

	"limewash/api"
	"limewash/blocks"
)

// wrongStates are states with an error of Check.
func wrongStates() []api.BkState {
	var l []api.BkState
	for _, n := range []int{0, 1, 7, 8, 9, 13, 14, 15, 96, 244, 245, 246, 768, 5000} {
		used := make([]bool, n)
		for i := range used {
			used[i] = i%2 == 0
		}
		for _, layout := range []api.BkLayout{
			{}, {Sectors: 64, Journal: 8, Inodes: 0}, {Sectors: 64, Journal: 8, Inodes: 61}, {Sectors: 63, Journal: 8, Inodes: 40}, {Sectors: 257, Journal: 8, Inodes: 40},
			{Sectors: 64, Journal: 7, Inodes: 40}, {Sectors: 256, Journal: 97, Inodes: 40}, {Sectors: 64, Journal: 8, Inodes: 47}, {Sectors: 64, Journal: 96, Inodes: 60},
		} {
			l = append(l, api.BkState{Layout: layout, Used: used})
		}
		for _, many := range []int{8, 9, 14, 244, 245} {
			if many != n {
				l = append(l, api.BkState{Layout: layoutOf(many), Used: used})
			}
		}
	}
	return append(l, api.BkState{}, api.BkState{Layout: layoutOf(14)})
}

// TestWrongStates is for P8.2 and P8.9: all functions return the error of Check first, and those that return a state the one that was given.
func TestWrongStates(t *testing.T) {
	for _, s := range wrongStates() {
		_, want := wantRegions(s.Layout)
		if want == api.OK {
			want = api.ErrForm
		}
		given := cloneState(s)
		same := func(name string, got api.BkState, e api.Errno) {
			t.Helper()
			if e != want || !sameState(got, given) {
				t.Fatalf("%s of %v with %d elements: %v %d, want %d", name, s.Layout, len(s.Used), got, e, want)
			}
		}
		same("Check", s, blocks.Check(s))
		for _, n := range []int{-1, 0, 1, 7, 8, 14, 300, 100000} {
			got, l, e := blocks.Alloc(s, n, n)
			same("Alloc", got, e)
			if len(l) != 0 {
				t.Fatalf("Alloc of %v with %d elements: %v", s.Layout, len(s.Used), l)
			}
			for _, l := range [][]int{nil, {n}, {0, n}, {n, n}} {
				got, e = blocks.Take(s, l)
				same("Take", got, e)
				got, e = blocks.Free(s, l)
				same("Free", got, e)
			}
		}
		if free, e := blocks.Count(s); free != 0 || e != want {
			t.Fatalf("Count of %v with %d elements: %d %d, want %d", s.Layout, len(s.Used), free, e, want)
		}
		if runs, e := blocks.Runs(s); len(runs) != 0 || e != want {
			t.Fatalf("Runs of %v with %d elements: %v %d, want %d", s.Layout, len(s.Used), runs, e, want)
		}
		if b, e := blocks.Encode(s); len(b) != 0 || e != want {
			t.Fatalf("Encode of %v with %d elements: %v %d, want %d", s.Layout, len(s.Used), b, e, want)
		}
		same("nothing", s, want)
	}
}

// turnAll makes each element of a state the other one.
func turnAll(s api.BkState) {
	for i := range s.Used {
		s.Used[i] = !s.Used[i]
	}
}

// TestFreshStates is for P8.9: states that are returned share no memory with the one that was given, or with each other, with errors too.
func TestFreshStates(t *testing.T) {
	for _, given := range []api.BkState{stateOf("#..#.#......##"), stateOf(strings.Repeat(".", 245)), {Layout: layoutOf(9), Used: make([]bool, 5)}, {Used: make([]bool, 20)}} {
		for i, f := range []func(s api.BkState) (api.BkState, api.Errno){
			func(s api.BkState) (api.BkState, api.Errno) { t, _, e := blocks.Alloc(s, 2, 3); return t, e },
			func(s api.BkState) (api.BkState, api.Errno) { t, _, e := blocks.Alloc(s, 2, 0); return t, e },
			func(s api.BkState) (api.BkState, api.Errno) { t, _, e := blocks.Alloc(s, -1, 3); return t, e },
			func(s api.BkState) (api.BkState, api.Errno) { t, _, e := blocks.Alloc(s, 0, 246); return t, e },
			func(s api.BkState) (api.BkState, api.Errno) { return blocks.Take(s, []int{1, 2}) },
			func(s api.BkState) (api.BkState, api.Errno) { return blocks.Take(s, []int{1, 0}) },
			func(s api.BkState) (api.BkState, api.Errno) { return blocks.Take(s, []int{1, 1}) },
			func(s api.BkState) (api.BkState, api.Errno) { return blocks.Take(s, nil) },
			func(s api.BkState) (api.BkState, api.Errno) { return blocks.Free(s, []int{0, 3}) },
			func(s api.BkState) (api.BkState, api.Errno) { return blocks.Free(s, []int{0, 1}) },
			func(s api.BkState) (api.BkState, api.Errno) { return blocks.Free(s, []int{0, -1}) },
			func(s api.BkState) (api.BkState, api.Errno) { return blocks.Free(s, nil) },
		} {
			s := cloneState(given)
			a, e := f(s)
			want := cloneState(a)
			b, again := f(s)
			if e != again || !sameState(b, want) {
				t.Errorf("%d: %v %d, then %v %d", i, want, e, b, again)
			}
			turnAll(a)
			if !sameState(s, given) || !sameState(b, want) {
				t.Errorf("%d: a state shares memory with another one", i)
			}
			turnAll(s)
			if !sameState(b, want) {
				t.Errorf("%d: a state shares memory with the one that was given", i)
			}
		}
	}
}

// TestFresh is for P8.9: lists and bytes that are returned share no memory with what was given, or with each other.
func TestFresh(t *testing.T) {
	s := stateOf("#..#.#......##")
	_, l, e := blocks.Alloc(s, 6, 4)
	must(t, e)
	l[0], l[1] = -1, -1
	if _, l, e = blocks.Alloc(s, 6, 4); e != api.OK || !slices.Equal(l, []int{6, 7, 8, 9}) {
		t.Errorf("Alloc again: %v %d", l, e)
	}
	runs, e := blocks.Runs(s)
	must(t, e)
	runs[0] = api.BkRun{}
	if runs, e = blocks.Runs(s); e != api.OK || !slices.Equal(runs, []api.BkRun{{From: 1, Many: 2}, {From: 4, Many: 1}, {From: 6, Many: 6}}) {
		t.Errorf("Runs again: %v %d", runs, e)
	}
	b, e := blocks.Encode(s)
	must(t, e)
	clear(b)
	if b, e = blocks.Encode(s); e != api.OK || !bytes.Equal(b, wantBytes(written(s))) {
		t.Errorf("Encode again: %v %d", b, e)
	}
	x, e := blocks.Decode(s.Layout, b)
	must(t, e)
	y, e := blocks.Decode(s.Layout, b)
	must(t, e)
	clear(b)
	turnAll(x)
	if !sameState(y, s) {
		t.Errorf("Decode of bytes that were changed: %v", y)
	}
	x, e = blocks.New(s.Layout)
	must(t, e)
	turnAll(x)
	if x, e = blocks.New(s.Layout); e != api.OK || written(x) != ".............." {
		t.Errorf("New again: %v %d", x, e)
	}
}

// TestExamples is for the examples of the chapter.
func TestExamples(t *testing.T) {
	l := api.BkLayout{Sectors: 64, Journal: 8, Inodes: 40}
	if r, e := blocks.Regions(l); r != (api.BkRegions{Journal: 1, Bitmap: 9, Table: 10, Data: 50, Blocks: 14}) || e != api.OK {
		t.Errorf("Regions: %v %d", r, e)
	}
	for block, want := range map[int]int{0: 50, 13: 63} {
		if n, e := blocks.Sector(l, block); n != want || e != api.OK {
			t.Errorf("Sector of %d: %d %d", block, n, e)
		}
	}
	if n, e := blocks.Sector(l, 14); n != 0 || e != api.ErrRange {
		t.Errorf("Sector of 14: %d %d", n, e)
	}
	if r, e := blocks.Regions(api.BkLayout{Sectors: 64, Journal: 8, Inodes: 46}); r.Blocks != 8 || e != api.OK {
		t.Errorf("Regions with 46 inodes: %v %d", r, e)
	}
	if r, e := blocks.Regions(api.BkLayout{Sectors: 64, Journal: 8, Inodes: 47}); r != (api.BkRegions{}) || e != api.ErrFull {
		t.Errorf("Regions with 47 inodes: %v %d", r, e)
	}
	s, e := blocks.New(l)
	must(t, e)
	s, got, e := blocks.Alloc(s, 12, 3)
	if !slices.Equal(got, []int{12, 13, 0}) || e != api.OK {
		t.Errorf("Alloc of 3 near 12: %v %d", got, e)
	}
	s, got, e = blocks.Alloc(s, 12, 1)
	if !slices.Equal(got, []int{1}) || e != api.OK {
		t.Errorf("Alloc of 1 near 12: %v %d", got, e)
	}
	if runs, e := blocks.Runs(s); !slices.Equal(runs, []api.BkRun{{From: 2, Many: 10}}) || e != api.OK {
		t.Errorf("Runs: %v %d", runs, e)
	}
	if free, e := blocks.Count(s); free != 10 || e != api.OK {
		t.Errorf("Count: %d %d", free, e)
	}
	if b, e := blocks.Encode(s); !bytes.Equal(b, append([]byte{3, 48}, make([]byte, 94)...)) || e != api.OK {
		t.Errorf("Encode: %v %d", b, e)
	}
	if same, got, e := blocks.Alloc(s, 0, 11); !sameState(same, s) || len(got) != 0 || e != api.ErrSpace {
		t.Errorf("Alloc of 11: %v %v %d", same, got, e)
	}
	if same, e := blocks.Free(s, []int{12, 12}); !sameState(same, s) || e != api.ErrTwice {
		t.Errorf("Free of 12, 12: %v %d", same, e)
	}
	if same, e := blocks.Take(s, []int{0}); !sameState(same, s) || e != api.ErrDown {
		t.Errorf("Take of 0: %v %d", same, e)
	}
}
