package blocks_test

import (
	"math"
	"slices"
	"strings"
	"testing"

	"limewash/api"
	"limewash/blocks"
)

// wantAlloc is what Alloc is to return for the state used.
func wantAlloc(used string, near, many int) (string, []int, api.Errno) {
	if near < 0 || near >= len(used) || many < 0 {
		return used, nil, api.ErrRange
	}
	if strings.Count(used, ".") < many {
		return used, nil, api.ErrSpace
	}
	b := []byte(used)
	var l []int
	for near := near; len(l) < many; near++ {
		if near == len(b) {
			near = 0
		}
		if b[near] == '.' {
			b[near] = '#'
			l = append(l, near)
		}
	}
	return string(b), l, api.OK
}

func compareAlloc(t *testing.T, used string, near, many int) {
	t.Helper()
	wantUsed, want, wantE := wantAlloc(used, near, many)
	s := stateOf(used)
	got, l, e := blocks.Alloc(s, near, many)
	if !sameState(got, stateOf(wantUsed)) || !slices.Equal(l, want) || e != wantE {
		t.Fatalf("Alloc(%s, %d, %d): %v %v %d, want %s %v %d", used, near, many, got, l, e, wantUsed, want, wantE)
	}
	if !sameState(s, stateOf(used)) {
		t.Fatalf("Alloc(%s, %d, %d) has changed the state: %v", used, near, many, s)
	}
}

// TestAllocSmall is for P8.3: all states of 8 blocks, near and with all numbers.
func TestAllocSmall(t *testing.T) {
	for _, used := range smallStates() {
		for near := -2; near < leastBlocks+3; near++ {
			for many := -2; many < leastBlocks+3; many++ {
				compareAlloc(t, used, near, many)
			}
		}
	}
}

// TestAllocLarge is for P8.3: states of all sizes, near all blocks.
func TestAllocLarge(t *testing.T) {
	next := numbers(1)
	for _, used := range someStates() {
		n, free := len(used), strings.Count(used, ".")
		for near := -1; near <= n; near++ {
			for _, many := range []int{-1, 0, 1, 2, 8, next(free + 1), free - 1, free, free + 1, n, n + 1} {
				compareAlloc(t, used, near, many)
			}
		}
		for _, x := range extremes {
			compareAlloc(t, used, x, 1)
			compareAlloc(t, used, 0, x)
			compareAlloc(t, used, n-1, x)
			compareAlloc(t, used, x, x)
		}
	}
}

// TestAllocErrors is for P8.3: ErrRange comes before ErrSpace, and none of no blocks has an error.
func TestAllocErrors(t *testing.T) {
	full, one := strings.Repeat("#", 14), strings.Repeat("#", 9)+"."+"####"
	for _, c := range []struct {
		used       string
		near, many int
		want       api.Errno
	}{
		{full, 14, 1, api.ErrRange}, {full, -1, 1, api.ErrRange}, {full, 0, -1, api.ErrRange}, {full, 13, 1, api.ErrSpace},
		{full, 0, 0, api.OK}, {full, 14, 0, api.ErrRange}, {full, 13, 0, api.OK}, {one, 10, 1, api.OK}, {one, 9, 2, api.ErrSpace},
		{one, 14, 2, api.ErrRange}, {one, 9, math.MinInt, api.ErrRange}, {one, 9, math.MaxInt, api.ErrSpace}, {one, math.MaxInt, math.MaxInt, api.ErrRange},
	} {
		compareAlloc(t, c.used, c.near, c.many)
		if _, _, e := blocks.Alloc(stateOf(c.used), c.near, c.many); e != c.want {
			t.Errorf("Alloc(%s, %d, %d): %d, want %d", c.used, c.near, c.many, e, c.want)
		}
	}
}

// TestFirstFree is for P8.8: what Alloc returned was free before; on the way to the last block no other one was; Free and Take go back and on.
func TestFirstFree(t *testing.T) {
	next := numbers(2)
	for _, used := range append(smallStates(), someStates()...) {
		s, n, free := stateOf(used), len(used), strings.Count(used, ".")
		near, many := next(n), next(free+1)
		got, l, e := blocks.Alloc(s, near, many)
		must(t, e)
		way := 0
		for _, block := range l {
			if s.Used[block] || !got.Used[block] {
				t.Fatalf("Alloc(%s, %d, %d): the block %d was used, or is free", used, near, many, block)
			}
			for (near+way)%n != block {
				if on := (near + way) % n; !s.Used[on] {
					t.Fatalf("Alloc(%s, %d, %d): %v without %d", used, near, many, l, on)
				}
				way++
			}
			way++
		}
		if len(l) != many || way > n {
			t.Fatalf("Alloc(%s, %d, %d): %v", used, near, many, l)
		}
		back, e := blocks.Free(got, l)
		if e != api.OK || !sameState(back, s) {
			t.Fatalf("Free of Alloc(%s, %d, %d): %v %d", used, near, many, back, e)
		}
		again, e := blocks.Take(back, l)
		if e != api.OK || !sameState(again, got) {
			t.Fatalf("Take of Alloc(%s, %d, %d): %v %d", used, near, many, again, e)
		}
	}
}

// TestCalls is for P8.3 and P8.4: many calls, one after the other, on states of all sizes.
func TestCalls(t *testing.T) {
	next := numbers(3)
	for _, used := range someStates() {
		n := len(used)
		for range 60 {
			s := stateOf(used)
			switch next(3) {
			case 0:
				near, many := next(n), next(n)/4
				compareAlloc(t, used, near, many)
				used, _, _ = wantAlloc(used, near, many)
			case 1:
				l := someList(used, '.', next)
				compareTurn(t, s, l)
				used, _ = wantTurn(used, l, '.', '#', api.ErrDown)
			case 2:
				l := someList(used, '#', next)
				compareTurn(t, s, l)
				used, _ = wantTurn(used, l, '#', '.', api.ErrNone)
			}
			compareFree(t, used)
		}
	}
}
