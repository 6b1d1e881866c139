package rill_test

import (
	"slices"
	"strings"
	"testing"

	"rill/api"
	"rill/rill"
)

// packed makes bytes of noughts and ones, from the lowest bit up; what is left
// of the last byte is noughts.
func packed(letters string) string {
	letters = strings.ReplaceAll(letters, " ", "")
	b := make([]byte, (len(letters)+7)/8)
	for i := range len(letters) {
		b[i/8] |= (letters[i] - '0') << (i % 8)
	}
	return string(b)
}

// spelled makes noughts and ones of bytes.
func spelled(s string) string {
	var b strings.Builder
	for i := range len(s) {
		b.WriteString(number(int(s[i]), 8))
	}
	return b.String()
}

// number writes a number of n bits, its lowest bit first.
func number(value, n int) string {
	b := make([]byte, n)
	for i := range b {
		b[i] = '0' + byte(value>>i&1)
	}
	return string(b)
}

// told is one of the symbols that tell a length or a distance: the least that
// it tells, and how many bits of a number to be added follow.
type told struct{ symbol, least, bits int }

// lengths has the symbols that tell lengths, as the document lists them.
func lengths() []told {
	return []told{
		{257, 3, 0}, {258, 4, 0}, {259, 5, 0}, {260, 6, 0}, {261, 7, 0}, {262, 8, 0}, {263, 9, 0}, {264, 10, 0},
		{265, 11, 1}, {266, 13, 1}, {267, 15, 1}, {268, 17, 1}, {269, 19, 2}, {270, 23, 2}, {271, 27, 2}, {272, 31, 2},
		{273, 35, 3}, {274, 43, 3}, {275, 51, 3}, {276, 59, 3}, {277, 67, 4}, {278, 83, 4}, {279, 99, 4}, {280, 115, 4},
		{281, 131, 5}, {282, 163, 5}, {283, 195, 5}, {284, 227, 5}, {285, 258, 0},
	}
}

// distances has the symbols that tell distances, as the document lists them.
func distances() []told {
	return []told{
		{0, 1, 0}, {1, 2, 0}, {2, 3, 0}, {3, 4, 0}, {4, 5, 1}, {5, 7, 1}, {6, 9, 2}, {7, 13, 2}, {8, 17, 3}, {9, 25, 3},
		{10, 33, 4}, {11, 49, 4}, {12, 65, 5}, {13, 97, 5}, {14, 129, 6}, {15, 193, 6}, {16, 257, 7}, {17, 385, 7},
		{18, 513, 8}, {19, 769, 8}, {20, 1025, 9}, {21, 1537, 9}, {22, 2049, 10}, {23, 3073, 10}, {24, 4097, 11},
		{25, 6145, 11}, {26, 8193, 12}, {27, 12289, 12}, {28, 16385, 13}, {29, 24577, 13},
	}
}

// telling writes the symbol, by its code in texts, that tells the value, and
// the number to be added.
func telling(all []told, texts []string, value int) string {
	for i, one := range slices.Backward(all) {
		if value >= one.least {
			return texts[all[i].symbol] + number(value-one.least, one.bits)
		}
	}
	panic("no symbol tells it")
}

// plain has the codes of blocks of kind 1.
func plain() (symbols, far []string) {
	symbols, _ = rill.Codes(kind1())
	far, _ = rill.Codes(repeated(32, 5))
	return symbols, far
}

// a1, end1 are codes of kind 1; near1 is a length of 3 with a distance of 1.
const (
	a1    = "10010001"
	end1  = "0000000"
	near1 = "0000001 00000"
)

// copied writes a length and a distance in a block of kind 1.
func copied(length, distance int) string {
	symbols, far := plain()
	return telling(lengths(), symbols, length) + telling(distances(), far, distance)
}

// stored gives a block of kind 0 that begins at a whole byte.
func stored(last int, text string) string {
	n := len(text)
	return string([]byte{byte(last), byte(n), byte(n >> 8), ^byte(n), ^byte(n >> 8)}) + text
}

// order has the symbols that tell lengths, as the lengths of their codes come.
func order() []int {
	return []int{16, 17, 18, 0, 8, 7, 9, 6, 10, 5, 11, 4, 12, 3, 13, 2, 14, 1, 15}
}

// even gives lengths for codes of lengths: all of the 19 symbols have one.
func even() []int {
	return append(repeated(13, 4), repeated(6, 5)...)
}

// announced begins a block of kind 2, up to the codes of lengths, of which no
// more are told than must be.
func announced(last string, symbols, far int, own []int) string {
	many := 19
	for many > 4 && own[order()[many-1]] == 0 {
		many--
	}
	letters := last + "01" + number(symbols-257, 5) + number(far-1, 5) + number(many-4, 4)
	for _, symbol := range order()[:many] {
		letters += number(own[symbol], 3)
	}
	return letters
}

// listed writes lengths one by one.
func listed(own, list []int) string {
	texts, _ := rill.Codes(own)
	letters := ""
	for _, length := range list {
		letters += texts[length]
	}
	return letters
}

// opened begins a block of kind 2, with all lengths.
func opened(last string, symbols, far []int) string {
	return announced(last, len(symbols), len(far), even()) + listed(even(), symbols) + listed(even(), far)
}

// again writes one of the symbols 16 to 18, and how many lengths it tells.
func again(own []int, symbol, many int) string {
	texts, _ := rill.Codes(own)
	switch symbol {
	case 16:
		return texts[16] + number(many-3, 2)
	case 17:
		return texts[17] + number(many-3, 3)
	}
	return texts[18] + number(many-11, 7)
}

// some gives a list of n lengths, of which those of some symbols are not 0.
func some(n int, of map[int]int) []int {
	list := make([]int, n)
	for symbol, length := range of {
		list[symbol] = length
	}
	return list
}

// small: a has the code 00, b 01, the end 10, 257 the code 11.
func small() []int {
	return some(258, map[int]int{'a': 2, 'b': 2, 256: 2, 257: 2})
}

func wantInflate(t *testing.T, why, s, text string, taken int, e api.Errno) {
	t.Helper()
	gotText, gotTaken, got := rill.Inflate(s)
	if gotText != text || gotTaken != taken || got != e {
		t.Errorf("%s: Inflate(%.60x) = %.60q (%d bytes), %d, %d, want %.60q (%d bytes), %d, %d", why, s, gotText, len(gotText), gotTaken, got, text, len(text), taken, e)
	}
}

// wantText holds that noughts and ones are a stream of this text.
func wantText(t *testing.T, why, letters, text string) {
	t.Helper()
	s := packed(letters)
	wantInflate(t, why, s, text, len(s), api.OK)
}

// padding gives a block of kind 1 behind a whole byte, with some text, by which
// what is behind it begins at the bit of a byte that is asked for.
func padding(bit int) (letters, text string) {
	k := (bit + 6) % 8 // the block's begin and end are 10 bits, a symbol of it 9
	return "010" + strings.Repeat("110010000", k) + end1, strings.Repeat("\x90", k)
}

// ahead gives blocks with so many bytes of text, at least 7, by which what is
// behind begins at the bit of a byte that is asked for.
func ahead(size, bit int) (letters, text string) {
	padded, behind := padding(bit)
	text = strings.Repeat("x", size-len(behind))
	return spelled(stored(0, text)) + padded, text + behind
}

func TestP4Examples(t *testing.T) {
	wantInflate(t, "empty", "\x03\x00", "", 2, api.OK)
	wantInflate(t, "a", "\x4b\x04\x00", "a", 3, api.OK)
	wantInflate(t, "ab", "\x01\x02\x00\xfd\xffab", "ab", 7, api.OK)
	wantInflate(t, "kind 3", "\x07", "", 0, api.ErrForm)
	wantInflate(t, "cut", "\x4b", "", 0, api.ErrMore)
	wantInflate(t, "no last block", "\x00\x00\x00\xff\xff", "", 0, api.ErrMore)
	wantInflate(t, "no bytes", "", "", 0, api.ErrMore)
}

func TestP4Kind0(t *testing.T) {
	every := ""
	for b := range 256 {
		every += string([]byte{byte(b)})
	}
	for _, text := range []string{"", "a", "ab", every, strings.Repeat(every, 5), strings.Repeat("x", 256)} {
		wantInflate(t, "one block", stored(1, text), text, 5+len(text), api.OK)
	}
	wantInflate(t, "three blocks", stored(0, "a")+stored(0, "")+stored(1, "bc"), "abc", 18, api.OK)
	for passed := range 32 {
		wantInflate(t, "whatever is passed over", string([]byte{byte(passed<<3 | 1)})+stored(1, "ab")[1:], "ab", 7, api.OK)
	}
	// a block of kind 0 whose head ends at any bit; with a byte, none is passed over
	for bit := range 8 {
		letters, text := padding(bit)
		letters += "100"
		letters += strings.Repeat("1", (8-len(letters)%8)%8)
		wantText(t, "behind another block", letters+spelled(stored(1, "ab")[1:]), text+"ab")
	}
}

func TestP4Kind1(t *testing.T) {
	symbols, _ := plain()
	letters, text := "110", ""
	for b := range 256 {
		letters += symbols[b]
		text += string([]byte{byte(b)})
	}
	wantText(t, "every byte", letters+end1, text)
	wantText(t, "nothing", "110"+end1, "")
	wantText(t, "three blocks", "010"+a1+end1+"010"+end1+"110"+a1+a1+end1, "aaa")
}

func TestP4Kind2(t *testing.T) {
	wantText(t, "no distances", opened("1", some(257, map[int]int{'a': 2, 'b': 2, 256: 1}), []int{0})+"10 11 10 0", "aba")
	wantText(t, "one distance", opened("1", small(), []int{1})+"00 01 11 0 10", "abbbb")
	wantText(t, "one distance of some", opened("1", small(), []int{0, 1, 0})+"00 01 11 0 10", "ababa")
	wantText(t, "two distances", opened("1", small(), []int{1, 1})+"00 01 11 0 11 1 10", "abbbbbbb")
	wantText(t, "the same codes again", opened("0", small(), []int{0})+"00 10"+opened("1", small(), []int{0})+"01 10", "ab")
	// the longest codes, and the most symbols and distances
	most := some(286, map[int]int{256: 15, 285: 15})
	for i := range 14 {
		most['a'+i] = i + 1
	}
	far := some(30, map[int]int{28: 15, 29: 15})
	for i := range 14 {
		far[i] = i + 1
	}
	wantText(t, "the most", opened("1", most, far)+"0 10 110 111111111111111 110 111111111111110", "abc"+strings.Repeat("abc", 86))
	// the least: no distance and no symbol but the end is used
	wantText(t, "the end alone", opened("1", some(257, map[int]int{0: 1, 256: 1}), []int{0})+"1", "")
}

// TestP4CodesOfLengths: how many there are, and in which order.
func TestP4CodesOfLengths(t *testing.T) {
	// 0 and length alone have codes, 0 and 1: so many symbols of this length fit, the end is the last one
	for length := 1; length <= 8; length++ {
		many := 1 << length
		own := some(19, map[int]int{0: 1, length: 1})
		list := slices.Concat(repeated(257-many, 0), repeated(many, length))
		head := announced("1", 257, 1, own) + listed(own, list) + listed(own, []int{0})
		wantText(t, "symbols of one length", head+strings.Repeat("0", length)+strings.Repeat("1", length), string([]byte{byte(257 - many)}))
	}
	uneven := []int{2, 3, 3, 3, 4, 4, 5, 5, 5, 5, 6, 6, 6, 6, 6, 6, 6, 7, 7}
	symbols := stairs()
	symbols[0] = 0
	far := append(repeated(4, 0), stairs()...)
	for range uneven {
		uneven = append(uneven[1:], uneven[0])
		head := announced("1", 257, 30, uneven) + listed(uneven, symbols)
		head += again(uneven, 17, 10) + again(uneven, 18, 138) + again(uneven, 18, 86) + again(uneven, 16, 6)
		head += listed(uneven, []int{1}) + again(uneven, 17, 7) + again(uneven, 16, 3) + listed(uneven, far)
		wantText(t, "all lengths", head+"10 110 111111111111110 0", "\x01\x02\x0e")
	}
}

func TestP4LengthsAgain(t *testing.T) {
	head := announced("1", 257, 1, even())
	for many := 3; many <= 138; many++ {
		symbol := 18
		if many < 11 {
			symbol = 17
		}
		list := some(257-many, map[int]int{0: 2, 1: 2, 256 - many: 1})
		wantText(t, "noughts", head+again(even(), symbol, many)+listed(even(), list)+listed(even(), []int{0})+"10 11 0", string([]byte{byte(many), byte(many + 1)}))
	}
	for many := 3; many <= 6; many++ {
		list := slices.Concat(repeated(6-many, 3), repeated(249, 0), []int{3, 0})
		wantText(t, "the last one", head+listed(even(), []int{3})+again(even(), 16, many)+listed(even(), list)+"110 000 101 111", "\x06\x00\x05")
	}
	list := some(250, map[int]int{0: 1, 248: 1})
	wantText(t, "a nought", head+listed(even(), []int{0})+again(even(), 16, 4)+again(even(), 17, 3)+listed(even(), list)+"0 1", "\x08")
	wantText(t, "the last one of those that come again", head+again(even(), 17, 5)+again(even(), 16, 3)+listed(even(), list)+"0 1", "\x08")
}

// TestP4OneList: what comes again goes on from the symbols to the distances.
func TestP4OneList(t *testing.T) {
	two := some(257, map[int]int{'a': 2, 'b': 2, 256: 2})
	wantText(t, "the last one", announced("1", 258, 4, even())+listed(even(), two)+again(even(), 16, 5)+"00 01 11 01 10", "ababa")
	wantText(t, "the last one, of the distances alone", announced("1", 258, 4, even())+listed(even(), append(two, 2))+again(even(), 16, 4)+"00 01 11 01 10", "ababa")
	one := some(257, map[int]int{'a': 1, 256: 1})
	wantText(t, "few noughts", announced("1", 260, 2, even())+listed(even(), one)+again(even(), 17, 5)+"0 1", "a")
	wantText(t, "many noughts", announced("1", 286, 30, even())+listed(even(), one)+again(even(), 18, 59)+"0 1", "a")
}

func TestP4Lengths(t *testing.T) {
	symbols, far := plain()
	for _, one := range lengths() {
		for added := range 1 << one.bits {
			letters := "110" + a1 + symbols[one.symbol] + number(added, one.bits) + far[0] + end1
			wantText(t, "a length", letters, strings.Repeat("a", 1+one.least+added))
		}
	}
}

// mixed gives a text in which what stands at a place hardly stands at others.
func mixed(n int) string {
	b := make([]byte, n)
	for i := range b {
		b[i] = byte(i)
		if i%2 == 1 {
			b[i] = byte(i >> 8)
		}
	}
	return string(b)
}

func TestP4Distances(t *testing.T) {
	_, far := plain()
	for _, one := range distances() {
		for _, added := range []int{0, 1, 1<<one.bits/2 - 1, 1 << one.bits / 2, 1<<one.bits - 2, 1<<one.bits - 1} {
			distance := one.least + added
			if added < 0 || added >= 1<<one.bits || distance > 4990 {
				continue
			}
			letters := "110 0000010" + far[one.symbol] + number(added, one.bits) + end1 // length 4
			for _, more := range []int{0, 1, 4} {
				text := mixed(distance + more)
				want := text
				for range 4 {
					want += want[len(want)-distance : len(want)-distance+1]
				}
				s := stored(0, text) + packed(letters)
				wantInflate(t, "a distance", s, want, len(s), api.OK)
			}
			wantInflate(t, "beyond the beginning", stored(0, mixed(distance-1))+packed(letters), "", 0, api.ErrForm)
		}
	}
}

func TestP4IntoItsOwnBytes(t *testing.T) {
	for distance := 1; distance <= 5; distance++ {
		for _, length := range []int{3, 4, 7, 10, 11, 257, 258} {
			text := "abcde"
			want := text + strings.Repeat(text[5-distance:], length)[:length]
			s := stored(0, text) + packed("110"+copied(length, distance)+end1)
			wantInflate(t, "into its own bytes", s, want, len(s), api.OK)
		}
	}
}

// TestP4BlocksMixed: kinds behind one another, and distances into other blocks.
func TestP4BlocksMixed(t *testing.T) {
	kinds := []func(last string, letters string) string{
		func(last, letters string) string {
			letters += last + "00"
			return letters + strings.Repeat("1", (8-len(letters)%8)%8) + spelled(stored(0, "ab")[1:])
		},
		func(last, letters string) string { return letters + last + "10" + a1 + "10010010" + end1 },
		func(last, letters string) string { return letters + opened(last, small(), []int{0}) + "000110" },
	}
	for n := range 81 {
		letters := ""
		for at := range 4 {
			letters = kinds[n/[]int{27, 9, 3, 1}[at]%3]("0", letters)
		}
		wantText(t, "five blocks", letters+"110"+copied(8, 8)+end1, strings.Repeat("ab", 8))
		wantText(t, "a last one", kinds[n%3]("1", letters), strings.Repeat("ab", 5))
	}
}

func TestP4Taken(t *testing.T) {
	for _, s := range []string{"\x03\x00", "\x4b\x04\x00", stored(1, "ab"), stored(0, "ab") + "\x03\x00", packed(opened("1", small(), []int{0}) + "00 01 10")} {
		text, taken, e := rill.Inflate(s)
		if taken != len(s) || e != api.OK {
			t.Errorf("Inflate(%x) = %q, %d, %d", s, text, taken, e)
		}
		for _, behind := range []string{"\x00", "\x07", "\xff", "rest", s, strings.Repeat("x", 6000)} {
			wantInflate(t, "bytes behind", s+behind, text, taken, api.OK)
		}
	}
	// the end at each bit of a byte: from the first bit on it is taken
	for bit := range 8 {
		letters, text := padding(bit)
		letters += "110" + end1
		for _, rest := range []string{"0000000", "1111111"} {
			s := packed(letters + rest)
			wantInflate(t, "the last byte in part", s, text, (len(letters)+7)/8, api.OK)
		}
	}
}
