package codes

// Set is codes by which symbols can be read.
type Set struct {
	counts  tally
	symbols []int // those that have codes, in the order of the codes
}

// Fitting gives the set of lengths that must fit; false, if they may not be
// or do not.
func Fitting(lengths []int) (Set, bool) {
	counts, ok := count(lengths)
	if !ok || !counts.fit() {
		return Set{}, false
	}
	return Set{counts, counts.arrange(lengths)}, true
}

// Sparse gives the set of lengths that must fit, or of which there may be
// just one, of length 1, or none; false, if it is neither of these.
func Sparse(lengths []int) (Set, bool) {
	counts, ok := count(lengths)
	if !ok || !counts.fit() && !counts.few() {
		return Set{}, false
	}
	return Set{counts, counts.arrange(lengths)}, true
}

// few tells whether there is one code, of length 1, or none.
func (counts tally) few() bool {
	for length := 2; length <= longest; length++ {
		if counts[length] > 0 {
			return false
		}
	}
	return counts[1] <= 1
}

// arrange puts the symbols that have codes into the order of these.
func (counts tally) arrange(lengths []int) []int {
	var next tally
	for length := 2; length <= longest; length++ {
		next[length] = next[length-1] + counts[length-1]
	}
	symbols := make([]int, len(lengths)-counts[0])
	for symbol, length := range lengths {
		if length == 0 {
			continue
		}
		symbols[next[length]] = symbol
		next[length]++
	}
	return symbols
}

// Empty tells whether no symbol has a code.
func (s Set) Empty() bool {
	return len(s.symbols) == 0
}

// Symbol asks for the letters of a code, one by one and none too many, and
// gives its symbol; false with the first letter by which they are no code:
// only a set with less than two codes has such letters, so it is enough to
// stop where no longer code is left.
func (s Set) Symbol(letter func() int) (int, bool) {
	code, first, passed := 0, 0, 0
	for length := 1; passed < len(s.symbols); length++ {
		code = code<<1 | letter()
		first <<= 1
		if code-first < s.counts[length] {
			return s.symbols[passed+code-first], true
		}
		first += s.counts[length]
		passed += s.counts[length]
	}
	return 0, false
}
