package rill_test

import (
	"fmt"
	"math"
	"slices"
	"testing"

	"rill/api"
	"rill/rill"
)

// repeated gives a list of n times the same number.
func repeated(n, number int) []int {
	return slices.Repeat([]int{number}, n)
}

// kind1 gives the lengths of symbols in blocks of kind 1.
func kind1() []int {
	return slices.Concat(repeated(144, 8), repeated(112, 9), repeated(24, 7), repeated(8, 8))
}

// stairs gives the lengths 1 to 14, and 15 twice.
func stairs() []int {
	return []int{1, 2, 3, 4, 5, 6, 7, 8, 9, 10, 11, 12, 13, 14, 15, 15}
}

func wantCodes(t *testing.T, lengths []int, want []string) {
	t.Helper()
	texts, e := rill.Codes(lengths)
	if e != api.OK || !slices.Equal(texts, want) {
		t.Errorf("Codes(%v) = %q, %d, want %q", lengths, texts, e, want)
	}
}

func wantErrForm(t *testing.T, why string, lengths []int) {
	t.Helper()
	texts, e := rill.Codes(lengths)
	if e != api.ErrForm || len(texts) != 0 {
		t.Errorf("%s: Codes of %d lengths: %d texts, %d", why, len(lengths), len(texts), e)
	}
}

func TestP3Examples(t *testing.T) {
	wantCodes(t, []int{2, 1, 3, 3}, []string{"10", "0", "110", "111"})
	wantCodes(t, []int{1, 1}, []string{"0", "1"})
	wantErrForm(t, "one code", []int{1})
	wantErrForm(t, "no code", []int{0, 0})
}

func TestP3Ordinary(t *testing.T) {
	wantCodes(t, []int{3, 3, 3, 3, 3, 2, 4, 4}, []string{"010", "011", "100", "101", "110", "00", "1110", "1111"})
	wantCodes(t, []int{2, 2, 2, 2}, []string{"00", "01", "10", "11"})
	// no code is of length 2: the first of length 3 has two noughts more
	wantCodes(t, []int{3, 3, 1, 3, 3}, []string{"100", "101", "0", "110", "111"})
}

func TestP3LongestCodes(t *testing.T) {
	texts, e := rill.Codes(stairs())
	if e != api.OK || len(texts) != 16 || texts[0] != "0" || texts[13] != "11111111111110" || texts[14] != "111111111111110" || texts[15] != "111111111111111" {
		t.Errorf("Codes(%v) = %q, %d", stairs(), texts, e)
	}
}

func TestP3SymbolsWithoutCode(t *testing.T) {
	wantCodes(t, []int{0, 1, 0, 1, 0}, []string{"", "0", "", "1", ""})
	wantCodes(t, []int{0, 0, 2, 1, 0, 2}, []string{"", "", "10", "0", "", "11"})
}

func TestP3Kind1(t *testing.T) {
	texts, e := rill.Codes(kind1())
	if e != api.OK || len(texts) != 288 {
		t.Fatalf("Codes of kind 1: %d texts, %d", len(texts), e)
	}
	// RFC 1951, 3.2.6
	for symbol, text := range texts {
		var want string
		switch {
		case symbol < 144:
			want = fmt.Sprintf("%08b", 0b00110000+symbol)
		case symbol < 256:
			want = fmt.Sprintf("%09b", 0b110010000+symbol-144)
		case symbol < 280:
			want = fmt.Sprintf("%07b", symbol-256)
		default:
			want = fmt.Sprintf("%08b", 0b11000000+symbol-280)
		}
		if text != want {
			t.Errorf("the code of %d is %q, want %q", symbol, text, want)
		}
	}
	distances, e := rill.Codes(repeated(32, 5))
	if e != api.OK || len(distances) != 32 {
		t.Fatalf("Codes of distances: %d texts, %d", len(distances), e)
	}
	for symbol, text := range distances {
		if text != fmt.Sprintf("%05b", symbol) {
			t.Errorf("the code of distance %d is %q", symbol, text)
		}
	}
}

func TestP3DoNotFit(t *testing.T) {
	for _, lengths := range [][]int{nil, {}, {0}, repeated(288, 0)} {
		wantErrForm(t, "none at all", lengths)
	}
	for _, lengths := range [][]int{{2}, {15}, {1, 2}, {2, 2, 2}, {1, 0, 3, 3}, stairs()[:15], kind1()[:287]} {
		wantErrForm(t, "too few", lengths)
	}
	for _, lengths := range [][]int{{1, 1, 1}, {1, 1, 15}, {1, 2, 2, 15}, {1, 1, 1, 1}, {1, 1, 1, 1, 1, 1}, repeated(288, 1), append(stairs(), 15), append(repeated(32, 5), 15)} {
		wantErrForm(t, "too many", lengths)
	}
}

func TestP3OutOfRange(t *testing.T) {
	// the others fit, so that only the one is wrong; some are right in their lowest bits
	for _, wrong := range []int{-1, -15, -16, 16, 17, 31, 64, 1 << 8, 1<<8 + 1, 1 << 16, math.MaxInt32, math.MinInt32, math.MaxInt, math.MinInt, math.MinInt + 1} {
		wantErrForm(t, "behind", []int{1, 1, wrong})
		wantErrForm(t, "ahead", []int{wrong, 1, 1})
		wantErrForm(t, "between", []int{1, wrong, 1})
		wantErrForm(t, "in a code's place", []int{1, wrong})
	}
	// the sum is just 1, if 16 is taken for a length
	wantErrForm(t, "16 twice", append(stairs()[:15:15], 16, 16))
}

func TestP3MostLengths(t *testing.T) {
	texts, e := rill.Codes(append([]int{1, 1}, repeated(286, 0)...))
	if e != api.OK || len(texts) != 288 || texts[0] != "0" || texts[1] != "1" || slices.Max(texts[2:]) != "" {
		t.Errorf("Codes of 288 lengths: %q, %d", texts, e)
	}
	wantErrForm(t, "289, two codes", append([]int{1, 1}, repeated(287, 0)...))
	wantErrForm(t, "289, the last without code", append(kind1(), 0))
	// 223 / 256 + 66 / 512 is just 1
	wantErrForm(t, "289 that fit", slices.Concat(repeated(223, 8), repeated(66, 9)))
}

func TestP1NoPanic(t *testing.T) {
	for _, number := range []int{math.MinInt, math.MinInt + 1, -1 << 31, -1, 0, 1, 15, 16, 63, 64, 65, 1 << 31, math.MaxInt - 1, math.MaxInt} {
		for _, n := range []int{0, 1, 2, 287, 288, 289, 1 << 16, 1 << 20} {
			texts, e := rill.Codes(repeated(n, number))
			if number == 1 && n == 2 {
				continue
			}
			if e != api.ErrForm || len(texts) != 0 {
				t.Errorf("Codes of %d times %d: %d texts, %d", n, number, len(texts), e)
			}
		}
	}
}

func TestP2HandedIn(t *testing.T) {
	for _, lengths := range [][]int{{2, 1, 3, 3}, {0, 1, 0, 1}, kind1(), {1}, {1, 1, 1}, {1, 16}, {-1, 1, 1}, {}, append(kind1(), 0)} {
		room := append(slices.Clone(lengths), repeated(300, 77)...)
		before := slices.Clone(room)
		rill.Codes(room[:len(lengths)])
		if !slices.Equal(room, before) {
			t.Errorf("Codes(%v) wrote into what was handed in", lengths)
		}
	}
}

func TestP2NotKept(t *testing.T) {
	lengths := []int{2, 1, 3, 3}
	texts, _ := rill.Codes(lengths)
	for i := range lengths {
		lengths[i] = 2
	}
	if !slices.Equal(texts, []string{"10", "0", "110", "111"}) {
		t.Errorf("the answer became %q", texts)
	}
	wantCodes(t, lengths, []string{"00", "01", "10", "11"})
}

func TestP2NewMemory(t *testing.T) {
	for _, lengths := range [][]int{{2, 1, 3, 3}, kind1(), repeated(32, 5)} {
		first, _ := rill.Codes(lengths)
		want := slices.Clone(first)
		second, _ := rill.Codes(lengths)
		all := first[:cap(first)]
		for i := range all {
			all[i] = "other"
		}
		if !slices.Equal(second, want) {
			t.Errorf("two answers of Codes(%v) share memory", lengths)
		}
		wantCodes(t, lengths, want)
	}
}

func TestP2OtherCallsBetween(t *testing.T) {
	for range 3 {
		wantCodes(t, []int{2, 1, 3, 3}, []string{"10", "0", "110", "111"})
		wantErrForm(t, "too many", []int{1, 1, 1})
		wantCodes(t, []int{1, 2, 2}, []string{"0", "10", "11"})
		wantErrForm(t, "out of range", []int{1, 1, 16})
	}
}
