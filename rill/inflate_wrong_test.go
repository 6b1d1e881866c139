package rill_test

import (
	"math/rand"
	"slices"
	"strings"
	"testing"

	"rill/api"
	"rill/rill"
)

// wantMet holds that letters, which begin at a block, end with the very bit
// with which e is met: with it e is the answer, whatever is behind; without it
// ErrMore, with the text that is told by then. There are size bytes of text
// ahead.
func wantMet(t *testing.T, why string, size int, letters, text string, e api.Errno) {
	t.Helper()
	letters = strings.ReplaceAll(letters, " ", "")
	for bit := range 8 {
		first, firstText := ahead(size, bit)
		whole := first + letters
		over := len(whole) % 8
		switch over {
		case 0:
			wantInflate(t, why+", with its last bit", packed(whole), "", 0, e)
		case 1:
			wantInflate(t, why+", without its last bit", packed(whole[:len(whole)-1]), firstText+text, 0, api.ErrMore)
		}
		for _, behind := range []string{"0", "1"} {
			wantInflate(t, why+", with bits behind", packed(whole+strings.Repeat(behind, 16-over)), "", 0, e)
		}
	}
}

// wantWrong is wantMet for what is wrong behind 7 bytes of text.
func wantWrong(t *testing.T, why, letters, text string) {
	t.Helper()
	wantMet(t, why, 7, letters, text, api.ErrForm)
}

func TestP4WrongKind(t *testing.T) {
	wantWrong(t, "kind 3", "0 11", "")
	wantWrong(t, "kind 3 of a last block", "1 11", "")
	wantWrong(t, "kind 3 behind a block", "0 10"+a1+end1+"0 11", "a")
	for b := range 256 {
		e := api.ErrMore
		if b>>1&3 == 3 || b>>1&3 == 2 && b>>3 > 29 {
			e = api.ErrForm // the kind, or a
		}
		wantInflate(t, "the first byte", string([]byte{byte(b)}), "", 0, e)
	}
}

func TestP4WrongSecondNumber(t *testing.T) {
	for _, text := range []string{"", "ab", strings.Repeat("x", 300)} {
		for bit := range 16 {
			s := []byte(stored(1, text))
			s[3+bit/8] ^= 1 << (bit % 8)
			wantInflate(t, "the second number", string(s), "", 0, api.ErrForm)
			wantInflate(t, "the second number, with its last bit", string(s[:5]), "", 0, api.ErrForm)
			for n := range 5 {
				wantInflate(t, "the second number, without all its bits", string(s[:n]), "", 0, api.ErrMore)
				wantInflate(t, "the second number, behind a text", stored(0, "cd")+string(s[:n]), "cd", 0, api.ErrMore)
			}
		}
	}
	wantInflate(t, "the same number", "\x01\x02\x00\x02\x00ab", "", 0, api.ErrForm)
}

func TestP4WrongNumbers(t *testing.T) {
	for _, a := range []int{30, 31} {
		wantWrong(t, "a", "0 01"+number(a, 5), "")
		wantWrong(t, "b", "0 01 00000"+number(a, 5), "")
		wantWrong(t, "b, and the greatest a", "0 01"+number(29, 5)+number(a, 5), "")
	}
}

func TestP4WrongCodesOfLengths(t *testing.T) {
	for _, own := range []map[int]int{
		{}, {18: 1}, {0: 1}, {16: 7}, {16: 1, 17: 2}, {16: 1, 17: 1, 18: 1}, {16: 1, 17: 2, 18: 2, 0: 7}, {16: 2, 17: 2, 18: 2},
		{15: 1}, {0: 1, 15: 2}, {0: 1, 8: 1, 15: 7}, {0: 1, 1: 1, 2: 1},
	} {
		wantWrong(t, "codes of lengths", announced("0", 257, 1, some(19, own)), "")
	}
}

func TestP4WrongLengths(t *testing.T) {
	lone := []int{0}
	for _, symbols := range []map[int]int{
		{256: 1}, {256: 15}, {'a': 1, 256: 2}, {'a': 1, 'b': 1, 256: 1}, {'a': 1, 'b': 2, 'c': 2, 256: 15}, {'a': 2, 'b': 2, 256: 2}, {257: 1, 256: 2},
	} {
		wantWrong(t, "lengths of symbols", opened("0", some(258, symbols), lone), "")
		wantWrong(t, "lengths of symbols, with distances", opened("0", some(258, symbols), []int{1, 1}), "")
	}
	for _, symbols := range []map[int]int{{}, {'a': 1}, {'a': 1, 'b': 1}, {'a': 1, 'b': 2, 257: 2}} {
		wantWrong(t, "no code for the end", opened("0", some(258, symbols), lone), "")
	}
	for _, far := range [][]int{
		{2}, {15}, {0, 2}, {2, 2}, {1, 2}, {1, 0, 15}, {1, 1, 1}, {1, 1, 15}, {1, 2, 2, 2}, {2, 2, 2}, repeated(30, 1), repeated(30, 5),
	} {
		wantWrong(t, "lengths of distances", opened("0", small(), far), "")
	}
	// symbols and distances fit each for itself, not as one list
	wantWrong(t, "half of them a distance", opened("0", some(257, map[int]int{256: 1}), []int{1}), "")
}

func TestP4WrongAgain(t *testing.T) {
	head := announced("0", 286, 30, even())
	texts, _ := rill.Codes(even())
	wantWrong(t, "a 16 with nothing ahead", head+texts[16], "")
	// symbols that fit, and 59 noughts behind them, if they are not too many
	head += listed(even(), some(257, map[int]int{'a': 1, 256: 1}))
	noughts := func(many int) string { return listed(even(), repeated(many, 0)) }
	for _, c := range []struct{ symbol, least, most int }{{16, 3, 6}, {17, 3, 10}, {18, 11, 59}} {
		for many := c.least; many <= c.most; many++ {
			wantWrong(t, "one length more than there must be", head+noughts(59-many+1)+again(even(), c.symbol, many), "")
		}
		wantWrong(t, "more lengths than there must be", head+noughts(58)+again(even(), c.symbol, c.most), "")
		s := packed(head + noughts(59-c.most) + again(even(), c.symbol, c.most) + "0 1")
		wantInflate(t, "as many as there must be", s, "a", 0, api.ErrMore)
	}
	wantWrong(t, "the most, and too many", head+again(even(), 18, 138), "")
	// a length that is not 0: four distances of it fit, there is a fifth
	head = announced("0", 258, 4, even()) + listed(even(), append(small(), 2))
	wantWrong(t, "one distance too many", head+again(even(), 16, 4), "")
}

func TestP4WrongSymbols(t *testing.T) {
	symbols, far := plain()
	for _, symbol := range []int{286, 287} {
		wantWrong(t, "a symbol that may not be", "0 10"+a1+symbols[symbol], "a")
	}
	for _, one := range lengths() {
		for _, distance := range []int{30, 31} {
			wantWrong(t, "a distance that may not be", "0 10"+a1+symbols[one.symbol]+number(0, one.bits)+far[distance], "a")
		}
	}
	for symbol := 257; symbol <= 285; symbol++ {
		list := some(symbol+1, map[int]int{'a': 2, 256: 2, symbol: 1})
		for _, none := range [][]int{{0}, repeated(30, 0)} {
			wantWrong(t, "no distance has a code", opened("0", list, none)+"10"+"0", "a")
		}
	}
}

func TestP4WrongNoCode(t *testing.T) {
	for _, far := range [][]int{{1}, {0, 1}, append(repeated(29, 0), 1)} {
		wantWrong(t, "bits that are no code", opened("0", small(), far)+"00 11 1", "a")
	}
	// the number to be added to the length comes ahead of them
	list := some(285, map[int]int{'a': 2, 256: 2, 284: 1})
	wantWrong(t, "bits that are no code", opened("0", list, []int{1})+"10 0 11111 1", "a")
}

func TestP4WrongDistance(t *testing.T) {
	symbols, far := plain()
	for _, one := range distances() {
		for _, distance := range []int{one.least, one.least + 1<<one.bits - 1} {
			letters := "0 10" + symbols[284] + "10000" + far[one.symbol] + number(distance-one.least, one.bits)
			size := min(distance-1, api.MaxText)
			if size >= 7 {
				wantMet(t, "beyond the beginning", size, letters, "", api.ErrForm)
			}
		}
	}
	wantInflate(t, "no text at all", packed("1 10"+near1+end1), "", 0, api.ErrForm)
	wantInflate(t, "the second byte back of one", packed("1 10"+a1+"0000001 00001"+end1), "", 0, api.ErrForm)
	wantInflate(t, "the first byte back of one", packed("1 10"+a1+near1+end1), "aaaa", 4, api.OK)
}

// line is noughts and ones, with what they tell: each piece of the text and
// how many of them there are when it is told.
type line struct {
	letters string
	texts   []string
	ends    []int
}

func (l *line) add(letters, text string) {
	l.letters += strings.ReplaceAll(letters, " ", "")
	l.texts = append(l.texts, text)
	l.ends = append(l.ends, len(l.letters))
}

// addStored adds a block of kind 0.
func (l *line) addStored(last, text string) {
	l.add(last+"00", "")
	l.add(strings.Repeat("1", (8-len(l.letters)%8)%8)+spelled(stored(0, text)[1:5]), "")
	for i := range len(text) {
		l.add(spelled(text[i:i+1]), text[i:i+1])
	}
}

// told is the text that so many letters tell.
func (l *line) told(letters int) string {
	text := ""
	for i, end := range l.ends {
		if end <= letters {
			text += l.texts[i]
		}
	}
	return text
}

// sample is a line with all kinds of blocks, begun at some bit.
func sample(bit int) *line {
	l := &line{}
	letters, text := padding(bit)
	l.add("010", "")
	for i := range len(text) {
		l.add("110010000", text[i:i+1])
	}
	l.add(end1, "")
	if l.letters != letters {
		panic("another padding")
	}
	l.add("0 10", "")
	l.add(a1, "a")
	l.add("10010010", "b")
	l.add(near1, "bbb")
	l.add(copied(12, 5), "abbbbabbbbab")
	l.add("111111111", "\xff")
	l.add(copied(258, 1), strings.Repeat("\xff", 258))
	l.add(copied(230, 258), strings.Repeat("\xff", 230))
	l.add(end1, "")
	l.addStored("0", "stored")
	l.addStored("0", "")
	l.add(opened("0", small(), []int{0, 1}), "")
	l.add("00", "a")
	l.add("01", "b")
	l.add("11 0", "aba")
	l.add("10", "")
	l.add("010"+end1, "")
	l.addStored("0", "\x00\x01\xff")
	l.add("1 10", "")
	l.add(copied(3, 3), "\x00\x01\xff")
	l.add(end1, "")
	return l
}

func TestP4FirstParts(t *testing.T) {
	for bit := range 8 {
		l := sample(bit)
		s := packed(l.letters)
		wantInflate(t, "all of it", s, l.told(len(l.letters)), len(s), api.OK)
		for n := range len(s) {
			wantInflate(t, "a first part", s[:n], l.told(8*n), 0, api.ErrMore)
		}
	}
}

func TestP4LongByKind0(t *testing.T) {
	full := mixed(api.MaxText)
	more := full + "x"
	wantInflate(t, "5000", stored(1, full), full, 5005, api.OK)
	wantInflate(t, "5001", stored(1, more), "", 0, api.ErrLong)
	wantInflate(t, "5001, of which 5000 are there", stored(1, more)[:5005], full, 0, api.ErrMore)
	wantInflate(t, "65535", stored(1, strings.Repeat("x", 65535)), "", 0, api.ErrLong)
	wantInflate(t, "65535, of which 5001 are there", stored(1, strings.Repeat("x", 65535))[:5006], "", 0, api.ErrLong)
	wantInflate(t, "65535, of which 5000 are there", stored(0, strings.Repeat("x", 65535))[:5005], strings.Repeat("x", 5000), 0, api.ErrMore)
	wantInflate(t, "two blocks, 5000", stored(0, full[:4999])+stored(1, full[4999:]), full, 5010, api.OK)
	wantInflate(t, "two blocks, 5001", stored(0, full)+stored(1, "x"), "", 0, api.ErrLong)
	wantInflate(t, "two blocks, the second number wrong", stored(0, full)+"\x01\x01\x00\xfe\xfex", "", 0, api.ErrForm)
	wantInflate(t, "nothing behind", stored(0, full)+stored(1, ""), full, 5010, api.OK)
	wantInflate(t, "no last block", stored(0, full), full, 0, api.ErrMore)
}

func TestP4LongBySymbols(t *testing.T) {
	wantText(t, "5000", "110"+strings.Repeat(a1, 5000)+end1, strings.Repeat("a", 5000))
	wantInflate(t, "5001", packed("110"+strings.Repeat(a1, 5001)+end1), "", 0, api.ErrLong)
	wantMet(t, "5001", 5000, "0 10"+a1, "", api.ErrLong)
	wantMet(t, "5001, the last two by symbols", 4999, "0 10"+a1+"111111111", "a", api.ErrLong)
	wantMet(t, "5001, kind 2", 4999, opened("1", small(), []int{0})+"00 01", "a", api.ErrLong)
}

func TestP4LongByLengths(t *testing.T) {
	for _, length := range []int{3, 10, 11, 100, 257, 258} {
		for _, distance := range []int{1, 5, 100, 4097} {
			letters := "1 10" + copied(length, distance)
			text := mixed(api.MaxText - length)
			want := text
			for range length {
				want += want[len(want)-distance : len(want)-distance+1]
			}
			s := stored(0, text) + packed(letters+end1)
			wantInflate(t, "just 5000", s, want, len(s), api.OK)
			wantMet(t, "one more", api.MaxText-length+1, letters, "", api.ErrLong)
			wantMet(t, "all more", api.MaxText, letters, "", api.ErrLong)
		}
	}
	s := packed("110" + a1 + strings.Repeat(copied(258, 1), 19) + copied(97, 1) + end1)
	wantInflate(t, "5000", s, strings.Repeat("a", 5000), len(s), api.OK)
	wantInflate(t, "5001", packed("110"+a1+strings.Repeat(copied(258, 1), 19)+copied(98, 1)+end1), "", 0, api.ErrLong)
}

// TestP4FirstMet: what comes first of something wrong, too much text and the
// end of the bytes.
func TestP4FirstMet(t *testing.T) {
	symbols, far := plain()
	beyond := symbols[257] + telling(distances(), far, 5001)
	wantMet(t, "wrong distance ahead of too long", 5000, "1 10"+beyond, "", api.ErrForm)
	wantMet(t, "wrong distance ahead of too long", 4999, "1 10"+symbols[257]+telling(distances(), far, 5000), "", api.ErrForm)
	wantMet(t, "as far back as may be, and too long", 5000, "1 10"+symbols[257]+telling(distances(), far, 5000), "", api.ErrLong)
	wantMet(t, "a symbol that may not be, and no room", 5000, "1 10"+symbols[286], "", api.ErrForm)
	wantMet(t, "a distance that may not be, and no room", 5000, "1 10"+symbols[285]+far[30], "", api.ErrForm)
	wantMet(t, "no distance has a code, and no room", 5000, opened("0", small(), []int{0})+"11", "", api.ErrForm)
	wantMet(t, "bits that are no code, and no room", 5000, opened("0", small(), []int{1})+"11 1", "", api.ErrForm)
	wantMet(t, "kind 3, and no room", 5000, "0 10"+end1+"0 11", "", api.ErrForm)
	wantInflate(t, "too long ahead of kind 3", stored(0, mixed(5001))+"\x07", "", 0, api.ErrLong)
	wantInflate(t, "kind 3 ahead of too long", stored(0, mixed(5000))+"\x07"+stored(1, "x"), "", 0, api.ErrForm)
	wantInflate(t, "the end ahead of both", stored(0, mixed(5000)), mixed(5000), 0, api.ErrMore)
	wantInflate(t, "the last block's end ahead of all", stored(1, mixed(5000))+"\x07", mixed(5000), 5005, api.OK)
	wantInflate(t, "two things wrong", packed("1 01"+number(30, 5)+number(31, 5)), "", 0, api.ErrForm)
}

// wantSane holds what is so at any bytes: which answers there are, and that
// with more bytes the text grows, until it is no more ErrMore; from then on the
// answer stays.
func wantSane(t *testing.T, s string) {
	t.Helper()
	last, known := "", api.ErrMore
	var answer [2]any
	for n := range len(s) + 1 {
		text, taken, e := rill.Inflate(s[:n])
		if known != api.ErrMore && (e != known || answer != [2]any{text, taken}) {
			t.Fatalf("Inflate(%x) = %q, %d, %d, and was %v, %d with fewer bytes", s[:n], text, taken, e, answer, known)
		}
		switch e {
		case api.OK:
			if taken < 1 || taken > n || len(text) > api.MaxText || !strings.HasPrefix(text, last) {
				t.Fatalf("Inflate(%x) = %q, %d, behind %q", s[:n], text, taken, last)
			}
		case api.ErrMore:
			if taken != 0 || len(text) > api.MaxText || !strings.HasPrefix(text, last) {
				t.Fatalf("Inflate(%x) = %q, %d, ErrMore, behind %q", s[:n], text, taken, last)
			}
		case api.ErrForm, api.ErrLong:
			if text != "" || taken != 0 {
				t.Fatalf("Inflate(%x) = %q, %d, %d", s[:n], text, taken, e)
			}
		default:
			t.Fatalf("Inflate(%x): %d", s[:n], e)
		}
		last, known, answer = text, e, [2]any{text, taken}
	}
}

func TestP1InflateAnything(t *testing.T) {
	for first := range 256 {
		for second := range 256 {
			wantSane(t, string([]byte{byte(first), byte(second)}))
		}
	}
	for b := range 256 {
		wantSane(t, strings.Repeat(string([]byte{byte(b)}), 300))
	}
	r := rand.New(rand.NewSource(3))
	for range 3000 {
		s := make([]byte, r.Intn(120))
		r.Read(s)
		wantSane(t, string(s))
	}
	whole := packed(sample(3).letters)
	for range 300 {
		s := []byte(whole)
		s[r.Intn(len(s))] ^= 1 << r.Intn(8)
		wantSane(t, string(s))
	}
}

// TestP1InflateMuch: many blocks, of each kind, with nothing in them.
func TestP1InflateMuch(t *testing.T) {
	const many = 40000
	wantInflate(t, "kind 0", strings.Repeat(stored(0, ""), many), "", 0, api.ErrMore)
	wantInflate(t, "kind 1", packed(strings.Repeat("010"+end1, many)), "", 0, api.ErrMore)
	block := strings.ReplaceAll(opened("0", small(), []int{0})+"10", " ", "")
	wantInflate(t, "kind 2", packed(strings.Repeat(block, many/40)), "", 0, api.ErrMore)
}

func TestP2InflateHangsOnItsArgument(t *testing.T) {
	all := []string{"", "\x03\x00", stored(1, "ab"), packed(sample(0).letters), packed(opened("1", small(), []int{1}) + "00 01 11 0 10"), "\x07", stored(1, mixed(5001)), "\x4b"}
	type answer struct {
		text  string
		taken int
		e     api.Errno
	}
	ask := func(s string) answer {
		text, taken, e := rill.Inflate(s)
		return answer{text, taken, e}
	}
	var first []answer
	for _, s := range all {
		first = append(first, ask(s))
	}
	for i, s := range slices.Backward(all) {
		if again := ask(s); again != first[i] {
			t.Errorf("Inflate(%.40x) = %v, and was %v", s, again, first[i])
		}
	}
}
