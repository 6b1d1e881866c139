package stream

import (
	"slices"

	"rill/codes"
)

const (
	lastAgain  = 16 // the last length comes again
	fewNoughts = 17 // the length 0 comes some times
	noughts    = 18 // the length 0 comes many times
	mostTold   = 29 // the most that the numbers a and b may be
)

// order has the symbols that tell lengths as the lengths of their own codes
// come: those that are needed least come last, where they can be left out.
var order = [...]int{16, 17, 18, 0, 8, 7, 9, 6, 10, 5, 11, 4, 12, 3, 13, 2, 14, 1, 15}

// plan is the codes by which the symbols of a block are read.
type plan struct {
	symbols, distances codes.Set
}

// kind1 gives the plan of blocks of kind 1.
func (r *Reader) kind1() *plan {
	if r.fixed != nil {
		return r.fixed
	}
	r.fixed = &plan{}
	r.fixed.symbols, _ = codes.Fitting(fixedSymbols())
	r.fixed.distances, _ = codes.Fitting(fixedDistances())
	return r.fixed
}

// fixedSymbols gives the lengths of symbols in blocks of kind 1.
func fixedSymbols() []int {
	return slices.Concat(times(144, 8), times(112, 9), times(24, 7), times(8, 8))
}

// fixedDistances gives the lengths of distances in blocks of kind 1.
func fixedDistances() []int {
	return times(32, 5)
}

// times gives a list of n times the same length.
func times(n, length int) []int {
	return slices.Repeat([]int{length}, n)
}

// kind2 reads the plan that a block of kind 2 begins with.
func (r *Reader) kind2() *plan {
	first := 257 + r.told()
	second := 1 + r.told()
	list := r.lengths(r.lengthCodes(), first+second)
	symbols, ok := codes.Fitting(list[:first])
	if !ok || list[blockEnd] == 0 {
		wrong()
	}
	distances, ok := codes.Sparse(list[first:])
	if !ok {
		wrong()
	}
	return &plan{symbols, distances}
}

// told reads a number that tells how many lengths there are.
func (r *Reader) told() int {
	number := r.number(5)
	if number > mostTold {
		wrong()
	}
	return number
}

// lengthCodes reads the codes by which lengths come.
func (r *Reader) lengthCodes() codes.Set {
	var lengths [len(order)]int
	for i := range r.number(4) + 4 {
		lengths[order[i]] = r.number(3)
	}
	set, ok := codes.Fitting(lengths[:])
	if !ok {
		wrong()
	}
	return set
}

// lengths reads a list of so many lengths.
func (r *Reader) lengths(set codes.Set, many int) []int {
	list := make([]int, 0, many)
	for len(list) < many {
		length, n := r.symbol(set), 1
		switch length {
		case lastAgain:
			if len(list) == 0 {
				wrong()
			}
			length, n = list[len(list)-1], 3+r.number(2)
		case fewNoughts:
			length, n = 0, 3+r.number(3)
		case noughts:
			length, n = 0, 11+r.number(7)
		}
		if n > many-len(list) {
			wrong()
		}
		list = append(list, times(n, length)...)
	}
	return list
}
