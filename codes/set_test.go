package codes

import (
	"slices"
	"testing"
)

// letters gives a function that hands out the letters of a text one by one,
// and a count of those that it has handed out.
func letters(t *testing.T, text string) (func() int, *int) {
	at := new(int)
	return func() int {
		if *at == len(text) {
			t.Fatalf("a letter more than %q is asked for", text)
		}
		*at++
		return int(text[*at-1] - '0')
	}, at
}

// wantSymbols holds that each code is read as its symbol, with no letter of
// what is behind it.
func wantSymbols(t *testing.T, set Set, lengths []int) {
	t.Helper()
	for symbol, text := range spoken(lengths) {
		if text == "" {
			continue
		}
		next, at := letters(t, text+"01")
		got, ok := set.Symbol(next)
		if got != symbol || !ok || *at != len(text) {
			t.Fatalf("%v: %q is read as %d, %v, by %d letters, want %d", lengths, text, got, ok, *at, symbol)
		}
	}
}

func TestSetsOfEveryShortList(t *testing.T) {
	for n := range 7 {
		every(n, 5, func(lengths []int) {
			fitting, ok := Fitting(lengths)
			if ok != halved(lengths) {
				t.Fatalf("Fitting(%v): %v", lengths, ok)
			}
			if ok {
				wantSymbols(t, fitting, lengths)
			}
			have := slices.DeleteFunc(slices.Clone(lengths), func(l int) bool { return l == 0 })
			few := len(have) == 0 || len(have) == 1 && have[0] == 1
			sparse, ok := Sparse(lengths)
			if ok != (halved(lengths) || few) {
				t.Fatalf("Sparse(%v): %v", lengths, ok)
			}
			if !ok {
				return
			}
			wantSymbols(t, sparse, lengths)
			if sparse.Empty() != (len(have) == 0) {
				t.Fatalf("Sparse(%v): Empty is %v", lengths, sparse.Empty())
			}
		})
	}
}

func TestSetsOfLongLists(t *testing.T) {
	for symbols := 2; symbols <= mostSymbols; symbols++ {
		for _, step := range []int{0, 1, 3, 7, 101} {
			lengths := grown(symbols, step)
			set, ok := Fitting(lengths)
			if !ok {
				t.Fatalf("Fitting(%v): %v", lengths, ok)
			}
			wantSymbols(t, set, lengths)
		}
	}
}

func TestNoCode(t *testing.T) {
	for _, lengths := range [][]int{{1}, {0, 0, 1}, {1, 0}} {
		set, _ := Sparse(lengths)
		next, at := letters(t, "1")
		if _, ok := set.Symbol(next); ok || *at != 1 {
			t.Errorf("%v: 1 is a code: %v, by %d letters", lengths, ok, *at)
		}
	}
	set, _ := Sparse([]int{0, 0})
	next, _ := letters(t, "")
	if _, ok := set.Symbol(next); ok {
		t.Error("there is no code, and one is read")
	}
}

func TestSetsOutOfRange(t *testing.T) {
	for _, lengths := range [][]int{{1, 1, -1}, {1, 1, 16}, {-1}, {16}, append([]int{1, 1}, make([]int, mostSymbols)...), make([]int, mostSymbols+1)} {
		_, fitting := Fitting(lengths)
		_, sparse := Sparse(lengths)
		if fitting || sparse {
			t.Errorf("%d lengths, the last one %d: %v, %v", len(lengths), lengths[len(lengths)-1], fitting, sparse)
		}
	}
}

func TestSetKeepsNothing(t *testing.T) {
	lengths := []int{2, 1, 3, 3}
	set, _ := Fitting(lengths)
	clear(lengths)
	wantSymbols(t, set, []int{2, 1, 3, 3})
}
