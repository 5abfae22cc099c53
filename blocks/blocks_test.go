package blocks_test

import (
	"math"
	"slices"
	"strings"
	"testing"

	"limewash/api"
	"limewash/blocks"
)

// The numbers of the chapter, written out.
const (
	leastSectors, mostSectors = 64, 256
	leastJournal, mostJournal = 8, 96
	leastInodes, mostInodes   = 1, 60
	leastBlocks               = 8
	mostBlocks                = mostSectors - 1 - leastJournal - 1 - leastInodes
	mapBytes                  = 96
)

// extremes are numbers that no layout has, and that no device has as a block.
var extremes = []int{math.MinInt, math.MinInt + 1, math.MinInt32, -257, -1, mostSectors + 1, 1 << 31, 1<<32 + 8, 1<<32 + 64, math.MaxInt - 256, math.MaxInt - 1, math.MaxInt}

// wantRegions is what Regions is to return.
func wantRegions(l api.BkLayout) (api.BkRegions, api.Errno) {
	if l.Sectors < leastSectors || l.Sectors > mostSectors || l.Journal < leastJournal || l.Journal > mostJournal || l.Inodes < leastInodes || l.Inodes > mostInodes {
		return api.BkRegions{}, api.ErrRange
	}
	many := l.Sectors - 2 - l.Journal - l.Inodes
	if many < leastBlocks {
		return api.BkRegions{}, api.ErrFull
	}
	return api.BkRegions{Journal: 1, Bitmap: 1 + l.Journal, Table: 2 + l.Journal, Data: 2 + l.Journal + l.Inodes, Blocks: many}, api.OK
}

// numbers yields numbers that look random, and are the same in each run.
func numbers(seed uint64) func(n int) int {
	return func(n int) int {
		seed = seed*6364136223846793005 + 1442695040888963407
		return int(seed>>33) % n
	}
}

// layoutOf is a layout with this many blocks.
func layoutOf(many int) api.BkLayout {
	if many <= 53 {
		return api.BkLayout{Sectors: 64, Journal: 8, Inodes: 54 - many}
	}
	return api.BkLayout{Sectors: many + 11, Journal: 8, Inodes: 1}
}

// The tests write a state as a string, with a # for each block that is used, and a point for each that is free.
func stateOf(used string) api.BkState {
	s := api.BkState{Layout: layoutOf(len(used))}
	for _, c := range used {
		s.Used = append(s.Used, c == '#')
	}
	return s
}

func sameState(a, b api.BkState) bool {
	return a.Layout == b.Layout && slices.Equal(a.Used, b.Used)
}

func cloneState(s api.BkState) api.BkState {
	return api.BkState{Layout: s.Layout, Used: append([]bool{}, s.Used...)}
}

func must(t *testing.T, e api.Errno) {
	t.Helper()
	if e != api.OK {
		t.Fatalf("error %d", e)
	}
}

// smallStates are all states of 8 blocks.
func smallStates() []string {
	l := []string{""}
	for range leastBlocks {
		var longer []string
		for _, s := range l {
			longer = append(longer, s+".", s+"#")
		}
		l = longer
	}
	return l
}

// someStates are states of many sizes, from the least to the greatest one.
func someStates() []string {
	next := numbers(8)
	var l []string
	for _, n := range []int{8, 9, 14, 15, 16, 17, 31, 53, 54, 63, 64, 65, 127, 128, 129, 200, 243, 244, mostBlocks} {
		l = append(l, strings.Repeat(".", n), strings.Repeat("#", n))
		for _, rare := range []int{2, 3, 20} {
			b, c := make([]byte, n), next(2)
			for i := range b {
				if next(rare) == 0 {
					c = 1 - c
				}
				b[i] = ".#"[c]
			}
			l = append(l, string(b))
		}
		i := next(n)
		l = append(l, strings.Repeat("#", i)+"."+strings.Repeat("#", n-i-1), strings.Repeat(".", i)+"#"+strings.Repeat(".", n-i-1))
		l = append(l, "."+strings.Repeat("#", n-2)+".", "#"+strings.Repeat(".", n-2)+"#", strings.Repeat("#", n-1)+".")
	}
	return l
}

// TestRegions is for P8.1: all layouts up to the limits, and beyond them.
func TestRegions(t *testing.T) {
	for sectors := leastSectors - 2; sectors <= mostSectors+2; sectors++ {
		for journal := leastJournal - 2; journal <= mostJournal+2; journal++ {
			for inodes := leastInodes - 2; inodes <= mostInodes+2; inodes++ {
				l := api.BkLayout{Sectors: sectors, Journal: journal, Inodes: inodes}
				want, wantE := wantRegions(l)
				if r, e := blocks.Regions(l); r != want || e != wantE {
					t.Fatalf("Regions(%v): %v %d, want %v %d", l, r, e, want, wantE)
				}
			}
		}
	}
}

// TestRegionsErrors is for P8.1: numbers far from the limits, zeros, and layouts around those with 8 blocks.
func TestRegionsErrors(t *testing.T) {
	fails := func(l api.BkLayout, want api.Errno) {
		t.Helper()
		if r, e := blocks.Regions(l); r != (api.BkRegions{}) || e != want {
			t.Errorf("Regions(%v): %v %d, want %d", l, r, e, want)
		}
		if s, e := blocks.New(l); !sameState(s, api.BkState{}) || e != want {
			t.Errorf("New(%v): %v %d, want %d", l, s, e, want)
		}
		for _, block := range []int{-1, 0, 1 << 40} {
			if n, e := blocks.Sector(l, block); n != 0 || e != want {
				t.Errorf("Sector(%v, %d): %d %d, want %d", l, block, n, e, want)
			}
		}
	}
	for _, n := range append([]int{0}, extremes...) {
		fails(api.BkLayout{Sectors: n, Journal: 8, Inodes: 40}, api.ErrRange)
		fails(api.BkLayout{Sectors: 64, Journal: n, Inodes: 40}, api.ErrRange)
		fails(api.BkLayout{Sectors: 64, Journal: 8, Inodes: n}, api.ErrRange)
		fails(api.BkLayout{Sectors: n, Journal: n, Inodes: n}, api.ErrRange)
		// A layout with 8 blocks, if its numbers might wrap around.
		fails(api.BkLayout{Sectors: 64, Journal: n, Inodes: 54 - n}, api.ErrRange)
		fails(api.BkLayout{Sectors: n, Journal: 8, Inodes: n - 18}, api.ErrRange)
	}
	fails(api.BkLayout{}, api.ErrRange)
	fails(api.BkLayout{Sectors: 64, Journal: 96, Inodes: 61}, api.ErrRange)
	fails(api.BkLayout{Sectors: 63, Journal: 96, Inodes: 60}, api.ErrRange)
	fails(api.BkLayout{Sectors: 64, Journal: 97, Inodes: 60}, api.ErrRange)
	fails(api.BkLayout{Sectors: 64, Journal: 96, Inodes: 60}, api.ErrFull)
	fails(api.BkLayout{Sectors: 64, Journal: 54, Inodes: 1}, api.ErrFull)
	fails(api.BkLayout{Sectors: 165, Journal: 96, Inodes: 60}, api.ErrFull)
}

// edgeLayouts are layouts at the limits of each number, and those with the fewest blocks.
func edgeLayouts() []api.BkLayout {
	var l []api.BkLayout
	for _, sectors := range []int{64, 65, 100, 166, 167, 255, 256} {
		for _, journal := range []int{8, 9, 40, 53, 95, 96} {
			for _, inodes := range []int{1, 2, 31, 45, 46, 59, 60, sectors - 10 - journal} {
				x := api.BkLayout{Sectors: sectors, Journal: journal, Inodes: inodes}
				if _, e := wantRegions(x); e == api.OK {
					l = append(l, x)
				}
			}
		}
	}
	return l
}

// TestSector is for P8.1: each block there is, and numbers that no block has.
func TestSector(t *testing.T) {
	for _, l := range edgeLayouts() {
		r, _ := wantRegions(l)
		for block := -3; block < mostSectors+10; block++ {
			want, wantE := r.Data+block, api.OK
			if block < 0 || block >= r.Blocks {
				want, wantE = 0, api.ErrRange
			}
			if n, e := blocks.Sector(l, block); n != want || e != wantE {
				t.Fatalf("Sector(%v, %d): %d %d, want %d %d", l, block, n, e, want, wantE)
			}
		}
		for _, block := range extremes {
			if n, e := blocks.Sector(l, block); n != 0 || e != api.ErrRange {
				t.Errorf("Sector(%v, %d): %d %d", l, block, n, e)
			}
		}
	}
}

// TestDisjoint is for P8.7: each sector belongs to one region, and to one block if that is the data.
func TestDisjoint(t *testing.T) {
	for _, l := range edgeLayouts() {
		r, e := blocks.Regions(l)
		must(t, e)
		owners := make([]int, l.Sectors)
		owners[0]++
		owners[r.Bitmap]++
		for i := range l.Journal {
			owners[r.Journal+i]++
		}
		for i := range l.Inodes {
			owners[r.Table+i]++
		}
		for block := range r.Blocks {
			n, e := blocks.Sector(l, block)
			must(t, e)
			if n < r.Data {
				t.Errorf("%v: the block %d has the sector %d, the data begins at %d", l, block, n, r.Data)
			}
			owners[n]++
		}
		for n, many := range owners {
			if many != 1 {
				t.Errorf("%v: the sector %d belongs to %d regions", l, n, many)
			}
		}
	}
}

// TestNew is for P8.2: all blocks of a new state are free.
func TestNew(t *testing.T) {
	for _, l := range edgeLayouts() {
		r, _ := wantRegions(l)
		s, e := blocks.New(l)
		if e != api.OK || !sameState(s, api.BkState{Layout: l, Used: make([]bool, r.Blocks)}) {
			t.Fatalf("New(%v): %v %d", l, s, e)
		}
		must(t, blocks.Check(s))
		if free, e := blocks.Count(s); free != r.Blocks || e != api.OK {
			t.Errorf("Count of New(%v): %d %d", l, free, e)
		}
	}
}

// TestCheck is for P8.2: states with any number of elements, with each layout.
func TestCheck(t *testing.T) {
	layouts := append(edgeLayouts(), api.BkLayout{}, api.BkLayout{Sectors: 63, Journal: 8, Inodes: 1}, api.BkLayout{Sectors: 64, Journal: 8, Inodes: 47}, api.BkLayout{Sectors: 64, Journal: 7, Inodes: 60})
	for _, l := range layouts {
		r, wantE := wantRegions(l)
		for n := range 300 {
			want := wantE
			if want == api.OK && n != r.Blocks {
				want = api.ErrForm
			}
			used := make([]bool, n)
			for i := range used {
				used[i] = i%3 == 0
			}
			if e := blocks.Check(api.BkState{Layout: l, Used: used}); e != want {
				t.Fatalf("Check of %v with %d elements: %d, want %d", l, n, e, want)
			}
		}
		want := wantE
		if want == api.OK {
			want = api.ErrForm
		}
		if e := blocks.Check(api.BkState{Layout: l}); e != want {
			t.Errorf("Check of %v with nil: %d, want %d", l, e, want)
		}
	}
	for _, used := range append(smallStates(), someStates()...) {
		must(t, blocks.Check(stateOf(used)))
	}
}
