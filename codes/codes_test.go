package codes

import (
	"slices"
	"strings"
	"testing"
)

// spoken makes the codes as the document's words go, letter by letter, in
// another way than Texts: it adds 1 to the code ahead and hangs noughts on.
func spoken(lengths []int) []string {
	texts := make([]string, len(lengths))
	last := ""
	for length := 1; length <= longest; length++ {
		for symbol, l := range lengths {
			if l != length {
				continue
			}
			code := last
			if last != "" {
				code = oneMore(last)
			}
			code += strings.Repeat("0", length-len(code))
			texts[symbol] = code
			last = code
		}
	}
	return texts
}

func oneMore(code string) string {
	end := strings.LastIndexByte(code, '0')
	return code[:end] + "1" + strings.Repeat("0", len(code)-end-1)
}

// halved tells whether lengths fit in another way than fit: two of the
// greatest length are as good as one of the length below it.
func halved(lengths []int) bool {
	counts := make([]int, longest+1)
	for _, l := range lengths {
		counts[l]++
	}
	for length := longest; length > 0; length-- {
		if counts[length]%2 != 0 {
			return false
		}
		if length == 1 {
			return counts[1] == 2
		}
		counts[length-1] += counts[length] / 2
	}
	return false
}

// every calls f with every list of n numbers from 0 to most.
func every(n, most int, f func([]int)) {
	list := make([]int, n)
	for {
		f(list)
		at := 0
		for at < n && list[at] == most {
			list[at] = 0
			at++
		}
		if at == n {
			return
		}
		list[at]++
	}
}

func TestTextsOfEveryShortList(t *testing.T) {
	fitting := 0
	for n := range 8 {
		every(n, 5, func(lengths []int) {
			texts, ok := Texts(lengths)
			if ok != halved(lengths) {
				t.Fatalf("Texts(%v): %v", lengths, ok)
			}
			if !ok {
				if len(texts) != 0 {
					t.Fatalf("Texts(%v) = %q, and does not fit", lengths, texts)
				}
				return
			}
			fitting++
			if want := spoken(lengths); !slices.Equal(texts, want) {
				t.Fatalf("Texts(%v) = %q, want %q", lengths, texts, want)
			}
		})
	}
	if fitting == 0 {
		t.Fatal("no list fits")
	}
}

// grown begins with one code of no letters and splits codes in two, now here
// now there: lists that fit, of many symbols and lengths.
func grown(symbols, step int) []int {
	lengths := []int{0}
	for at := 0; len(lengths) < symbols; at += step {
		i := at % len(lengths)
		if lengths[i] == longest {
			i = slices.Index(lengths, slices.Min(lengths))
		}
		lengths[i]++
		lengths = append(lengths, lengths[i])
	}
	return lengths
}

func TestTextsOfLongLists(t *testing.T) {
	for symbols := 2; symbols <= mostSymbols; symbols++ {
		for _, step := range []int{0, 1, 3, 7, 101} {
			lengths := grown(symbols, step)
			texts, ok := Texts(lengths)
			if !ok || !slices.Equal(texts, spoken(lengths)) {
				t.Fatalf("Texts(%v) = %q, %v", lengths, texts, ok)
			}
		}
	}
}
