// Package codes makes codes of lengths: see DOC.md, section 'Words'.
package codes

const (
	longest     = 15  // letters of a code
	mostSymbols = 288 // symbols that lengths are told for
)

// tally has, for each length, how many symbols have a code of it.
type tally [longest + 1]int

// Texts gives the code of each symbol as noughts and ones, the empty text
// where it has none; false, if the lengths may not be or do not fit.
func Texts(lengths []int) ([]string, bool) {
	counts, ok := count(lengths)
	if !ok || !counts.fit() {
		return nil, false
	}
	next := counts.firsts()
	texts := make([]string, len(lengths))
	for symbol, length := range lengths {
		if length == 0 {
			continue
		}
		texts[symbol] = text(next[length], length)
		next[length]++
	}
	return texts, true
}

// count tallies the lengths; false, if there are too many or one is out of range.
func count(lengths []int) (tally, bool) {
	var counts tally
	if len(lengths) > mostSymbols {
		return tally{}, false
	}
	for _, length := range lengths {
		if length < 0 || length > longest {
			return tally{}, false
		}
		counts[length]++
	}
	return counts, true
}

// fit tells whether 1 / 2^length sums up to just 1. It is summed up in parts
// of 1 / 2^longest: so every share is a whole number and nothing is rounded.
func (counts tally) fit() bool {
	sum := 0
	for length := 1; length <= longest; length++ {
		sum += counts[length] << (longest - length)
	}
	return sum == 1<<longest
}

// firsts gives the first code of each length as a number. A length without
// codes only hands on, with a nought more, what the next one begins with.
func (counts tally) firsts() [longest + 1]int {
	var first [longest + 1]int
	for length := 2; length <= longest; length++ {
		first[length] = (first[length-1] + counts[length-1]) << 1
	}
	return first
}

// text writes a code out, its highest bit first.
func text(code, length int) string {
	letters := make([]byte, length)
	for i := range letters {
		letters[i] = '0' + byte(code>>(length-1-i)&1)
	}
	return string(letters)
}
