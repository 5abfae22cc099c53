package blocks

import (
	"iter"
	"slices"

	"limewash/api"
)

// Alloc returns the state in which the first many free blocks, from near on and then from 0 on, are used, and these blocks.
func Alloc(s api.BkState, near, many int) (t api.BkState, blocks []int, e api.Errno) {
	t = clone(s)
	free, e := Count(s)
	switch {
	case e != api.OK:
		return t, nil, e
	case !isBlock(s, near), many < 0:
		return t, nil, api.ErrRange
	case many > free:
		return t, nil, api.ErrSpace
	}
	for block := range freeFrom(s, near) {
		if len(blocks) == many {
			break
		}
		blocks = append(blocks, block)
		t.Used[block] = true
	}
	return t, blocks, api.OK
}

// Take returns the state in which the blocks, which were free, are used.
func Take(s api.BkState, blocks []int) (api.BkState, api.Errno) {
	return turn(s, blocks, true, api.ErrDown)
}

// Free returns the state in which the blocks, which were used, are free.
func Free(s api.BkState, blocks []int) (api.BkState, api.Errno) {
	return turn(s, blocks, false, api.ErrNone)
}

// Count returns how many blocks are free.
func Count(s api.BkState) (free int, e api.Errno) {
	if e := Check(s); e != api.OK {
		return 0, e
	}
	for range freeFrom(s, 0) {
		free++
	}
	return free, api.OK
}

// Runs returns all runs of free blocks.
func Runs(s api.BkState) ([]api.BkRun, api.Errno) {
	if e := Check(s); e != api.OK {
		return nil, e
	}
	var runs []api.BkRun
	next := -1
	for block := range freeFrom(s, 0) {
		if block != next {
			runs = append(runs, api.BkRun{From: block})
		}
		runs[len(runs)-1].Many++
		next = block + 1
	}
	return runs, api.OK
}

// turn returns the state in which the blocks are used or free, or the error already if one of them is so in s.
func turn(s api.BkState, blocks []int, used bool, already api.Errno) (api.BkState, api.Errno) {
	t := clone(s)
	if e := checkList(s, blocks); e != api.OK {
		return t, e
	}
	if slices.ContainsFunc(blocks, func(block int) bool { return s.Used[block] == used }) {
		return t, already
	}
	for _, block := range blocks {
		t.Used[block] = used
	}
	return t, api.OK
}

// checkList returns what is wrong with a state, or else with a list of blocks, whether they are used or free.
func checkList(s api.BkState, blocks []int) api.Errno {
	if e := Check(s); e != api.OK {
		return e
	}
	met := make([]bool, len(s.Used))
	for _, block := range blocks {
		switch {
		case !isBlock(s, block):
			return api.ErrRange
		case met[block]:
			return api.ErrTwice
		}
		met[block] = true
	}
	return api.OK
}

// freeFrom yields the free blocks, from near on, and from 0 on after the last block.
func freeFrom(s api.BkState, near int) iter.Seq[int] {
	return func(yield func(int) bool) {
		for i := range s.Used {
			block := (near + i) % len(s.Used)
			if !s.Used[block] && !yield(block) {
				return
			}
		}
	}
}

// isBlock returns whether a state that was checked has this block.
func isBlock(s api.BkState, block int) bool {
	return block >= 0 && block < len(s.Used)
}

// clone returns s in memory of its own.
func clone(s api.BkState) api.BkState {
	s.Used = slices.Clone(s.Used)
	return s
}
