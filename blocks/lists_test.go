package blocks_test

import (
	"slices"
	"strings"
	"testing"

	"limewash/api"
	"limewash/blocks"
)

// wantTurn is what Take or Free is to return for the state used, whose blocks are to be from, and become to.
func wantTurn(used string, l []int, from, to byte, already api.Errno) (string, api.Errno) {
	for i, block := range l {
		if block < 0 || block >= len(used) {
			return used, api.ErrRange
		}
		if slices.Contains(l[:i], block) {
			return used, api.ErrTwice
		}
	}
	b := []byte(used)
	for _, block := range l {
		if used[block] != from {
			return used, already
		}
		b[block] = to
	}
	return string(b), api.OK
}

// written is a state as the tests write it.
func written(s api.BkState) string {
	b := make([]byte, len(s.Used))
	for i, v := range s.Used {
		b[i] = '.'
		if v {
			b[i] = '#'
		}
	}
	return string(b)
}

// compareTurn compares Take and Free of the list with what they are to return.
func compareTurn(t *testing.T, s api.BkState, l []int) {
	t.Helper()
	used, given := written(s), append([]int{}, l...)
	taken, takenE := wantTurn(used, l, '.', '#', api.ErrDown)
	if got, e := blocks.Take(s, l); got.Layout != s.Layout || written(got) != taken || e != takenE {
		t.Fatalf("Take(%s, %.200d): %s %d, want %s %d", used, l, written(got), e, taken, takenE)
	}
	freed, freedE := wantTurn(used, l, '#', '.', api.ErrNone)
	if got, e := blocks.Free(s, l); got.Layout != s.Layout || written(got) != freed || e != freedE {
		t.Fatalf("Free(%s, %.200d): %s %d, want %s %d", used, l, written(got), e, freed, freedE)
	}
	if written(s) != used || !slices.Equal(l, given) {
		t.Fatalf("Take or Free of %s, %.200d has changed an argument", used, given)
	}
}

// someList is a list of blocks with the mark c, of any length, in any order, and now and then with some other numbers.
func someList(used string, c byte, next func(int) int) []int {
	var l []int
	for i := range len(used) {
		if used[i] == c {
			l = append(l, i)
		}
	}
	for i := range l {
		k := i + next(len(l)-i)
		l[i], l[k] = l[k], l[i]
	}
	l = l[:next(len(l)+1)]
	for next(3) == 0 {
		l = slices.Insert(l, next(len(l)+1), next(len(used)+2)-1)
	}
	return l
}

// TestTurnSmall is for P8.4: all states of 8 blocks, with all lists of up to 3 numbers.
func TestTurnSmall(t *testing.T) {
	lists := [][]int{nil, {}}
	for a := -1; a <= leastBlocks; a++ {
		lists = append(lists, []int{a})
		for b := -1; b <= leastBlocks; b++ {
			lists = append(lists, []int{a, b})
			for c := -1; c <= leastBlocks; c++ {
				lists = append(lists, []int{a, b, c})
			}
		}
	}
	for _, used := range smallStates() {
		s := stateOf(used)
		for _, l := range lists {
			compareTurn(t, s, l)
		}
	}
}

// TestTurnLarge is for P8.4: states of all sizes, with lists of all lengths.
func TestTurnLarge(t *testing.T) {
	next := numbers(4)
	for _, used := range someStates() {
		s := stateOf(used)
		for range 100 {
			compareTurn(t, s, someList(used, '.', next))
			compareTurn(t, s, someList(used, '#', next))
		}
		for block := -1; block <= len(used); block++ {
			compareTurn(t, s, []int{block})
		}
		for _, x := range extremes {
			compareTurn(t, s, []int{x})
			compareTurn(t, s, []int{0, x})
			compareTurn(t, s, []int{len(used) - 1, 0, x})
		}
		all := make([]int, len(used))
		for i := range all {
			all[i] = len(all) - 1 - i
		}
		compareTurn(t, s, all)
		compareTurn(t, s, append(all, 0))
		compareTurn(t, s, append(all, -1))
		compareTurn(t, s, make([]int, 100000))
	}
}

// TestTurnErrors is for P8.4: the first block of the list that there is not, or is in it before, comes before all that are used, or free.
func TestTurnErrors(t *testing.T) {
	full, empty := stateOf(strings.Repeat("#", 14)), stateOf(strings.Repeat(".", 14))
	for _, c := range []struct {
		l          []int
		take, free api.Errno
	}{
		{[]int{14, 2, 2}, api.ErrRange, api.ErrRange},
		{[]int{2, 2, 14}, api.ErrTwice, api.ErrTwice},
		{[]int{2, 14, 2}, api.ErrRange, api.ErrRange},
		{[]int{-1, -1}, api.ErrRange, api.ErrRange},
		{[]int{2, 3, 2, -1}, api.ErrTwice, api.ErrTwice},
		{[]int{13, 0}, api.ErrDown, api.ErrNone},
		{[]int{5}, api.ErrDown, api.ErrNone},
		{nil, api.OK, api.OK},
	} {
		if s, e := blocks.Take(full, c.l); e != c.take || !sameState(s, full) {
			t.Errorf("Take(%v) of used blocks: %v %d, want %d", c.l, s, e, c.take)
		}
		if s, e := blocks.Free(empty, c.l); e != c.free || !sameState(s, empty) {
			t.Errorf("Free(%v) of free blocks: %v %d, want %d", c.l, s, e, c.free)
		}
	}
	half := stateOf("####....")
	for _, l := range [][]int{{4, 5, 0}, {0, 4, 5}, {4, 0, 5}} {
		if s, e := blocks.Take(half, l); e != api.ErrDown || !sameState(s, half) {
			t.Errorf("Take(%v): %v %d", l, s, e)
		}
		if s, e := blocks.Free(half, l); e != api.ErrNone || !sameState(s, half) {
			t.Errorf("Free(%v): %v %d", l, s, e)
		}
	}
}
