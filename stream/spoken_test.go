package stream

import (
	"strings"

	"rill/api"
	"rill/codes"
)

// spoken goes through a stream as the document's words go, in another way than
// reader: over letters, with codes looked up as texts and what is told written
// out, and what stops it kept beside.
type spoken struct {
	letters string
	at      int
	text    []byte
	why     api.Errno
}

// spell writes bytes out as letters, each from its lowest bit up.
func spell(s string) string {
	var b strings.Builder
	for i := range len(s) {
		for bit := range 8 {
			b.WriteByte('0' + s[i]>>bit&1)
		}
	}
	return b.String()
}

// spokenRead is what Read must answer.
func spokenRead(s string) (string, int, api.Errno) {
	p := &spoken{letters: spell(s)}
	for p.block() {
	}
	if p.why != api.OK {
		return string(p.text), 0, p.why
	}
	return string(p.text), (p.at + 7) / 8, api.OK
}

// stopped tells whether something has, and keeps e, if it is the first.
func (p *spoken) stopped(e api.Errno, here bool) bool {
	if p.why == api.OK && here {
		p.why = e
	}
	return p.why != api.OK
}

func (p *spoken) number(n int) int {
	if p.stopped(api.ErrMore, p.at+n > len(p.letters)) {
		return 0
	}
	value := 0
	for i := n - 1; i >= 0; i-- {
		value = 2*value + int(p.letters[p.at+i]-'0')
	}
	p.at += n
	return value
}

// block reads a block, and tells whether there is to be another one.
func (p *spoken) block() bool {
	last, kind := p.number(1), p.number(2)
	if p.stopped(api.ErrForm, kind == 3) {
		return false
	}
	switch kind {
	case 0:
		p.stored()
	case 1:
		var symbols []int
		for symbol := range 288 {
			switch {
			case symbol < 144 || symbol > 279:
				symbols = append(symbols, 8)
			case symbol > 255:
				symbols = append(symbols, 7)
			default:
				symbols = append(symbols, 9)
			}
		}
		p.symbols(book(symbols), book([]int{5, 5, 5, 5, 5, 5, 5, 5, 5, 5, 5, 5, 5, 5, 5, 5, 5, 5, 5, 5, 5, 5, 5, 5, 5, 5, 5, 5, 5, 5, 5, 5}))
	case 2:
		symbols, distances := p.lists()
		if p.why == api.OK {
			p.symbols(symbols, distances)
		}
	}
	return p.why == api.OK && last == 0
}

func (p *spoken) stored() {
	for p.at%8 != 0 {
		p.at++
	}
	n, other := p.number(16), p.number(16)
	p.stopped(api.ErrForm, n+other != 65535)
	for p.why == api.OK && n > 0 {
		p.put(p.number(8))
		n--
	}
}

func (p *spoken) put(value int) {
	if !p.stopped(api.ErrLong, len(p.text) >= api.MaxText) {
		p.text = append(p.text, byte(value))
	}
}

// book has symbols by their codes; nil, if the lengths do not fit.
func book(lengths []int) map[string]int {
	texts, ok := codes.Texts(lengths)
	if !ok {
		return nil
	}
	b := map[string]int{}
	for symbol, text := range texts {
		if text != "" {
			b[text] = symbol
		}
	}
	return b
}

// symbol reads a symbol: the letters grow until they are a code, or until no
// code begins with them.
func (p *spoken) symbol(b map[string]int) int {
	code := ""
	for p.why == api.OK {
		if p.stopped(api.ErrMore, p.at == len(p.letters)) {
			break
		}
		code += p.letters[p.at : p.at+1]
		p.at++
		if symbol, ok := b[code]; ok {
			return symbol
		}
		begun := false
		for text := range b {
			begun = begun || strings.HasPrefix(text, code)
		}
		p.stopped(api.ErrForm, !begun)
	}
	return 0
}

// lists reads the codes of a block of kind 2.
func (p *spoken) lists() (map[string]int, map[string]int) {
	a := p.number(5)
	p.stopped(api.ErrForm, a > 29)
	b := p.number(5)
	p.stopped(api.ErrForm, b > 29)
	c := p.number(4)
	own := make([]int, 19)
	for _, symbol := range []int{16, 17, 18, 0, 8, 7, 9, 6, 10, 5, 11, 4, 12, 3, 13, 2, 14, 1, 15}[:c+4] {
		own[symbol] = p.number(3)
	}
	by := book(own)
	p.stopped(api.ErrForm, by == nil)
	var list []int
	for p.why == api.OK && len(list) < a+257+b+1 {
		list = p.longer(list, by)
		p.stopped(api.ErrForm, len(list) > a+257+b+1)
	}
	if p.why != api.OK {
		return nil, nil
	}
	symbols := book(list[:a+257])
	p.stopped(api.ErrForm, symbols == nil || list[256] == 0)
	told := list[a+257:]
	distances := book(told)
	sum, one := 0, -1
	for symbol, length := range told {
		sum += length
		if length == 1 {
			one = symbol
		}
	}
	switch {
	case sum == 0:
		distances = map[string]int{}
	case sum == 1:
		distances = map[string]int{"0": one}
	}
	p.stopped(api.ErrForm, distances == nil)
	return symbols, distances
}

// longer reads what the next symbol adds to a list of lengths.
func (p *spoken) longer(list []int, by map[string]int) []int {
	symbol := p.symbol(by)
	n, length := 1, symbol
	switch symbol {
	case 16:
		if p.stopped(api.ErrForm, len(list) == 0) {
			return list
		}
		n, length = 3+p.number(2), list[len(list)-1]
	case 17:
		n, length = 3+p.number(3), 0
	case 18:
		n, length = 11+p.number(7), 0
	}
	if p.why != api.OK {
		return list
	}
	for range n {
		list = append(list, length)
	}
	return list
}

// symbols reads symbols up to the block's end.
func (p *spoken) symbols(symbols, distances map[string]int) {
	for {
		symbol := p.symbol(symbols)
		if p.why != api.OK || symbol == 256 {
			return
		}
		if symbol < 256 {
			p.put(symbol)
			continue
		}
		if p.stopped(api.ErrForm, symbol > 285 || len(distances) == 0) {
			return
		}
		length := []int{3, 4, 5, 6, 7, 8, 9, 10, 11, 13, 15, 17, 19, 23, 27, 31, 35, 43, 51, 59, 67, 83, 99, 115, 131, 163, 195, 227, 258}[symbol-257]
		length += p.number([]int{0, 0, 0, 0, 0, 0, 0, 0, 1, 1, 1, 1, 2, 2, 2, 2, 3, 3, 3, 3, 4, 4, 4, 4, 5, 5, 5, 5, 0}[symbol-257])
		far := p.symbol(distances)
		if p.stopped(api.ErrForm, far > 29) {
			return
		}
		distance := []int{1, 2, 3, 4, 5, 7, 9, 13, 17, 25, 33, 49, 65, 97, 129, 193, 257, 385, 513, 769, 1025, 1537, 2049, 3073, 4097, 6145, 8193, 12289, 16385, 24577}[far]
		distance += p.number([]int{0, 0, 0, 0, 1, 1, 2, 2, 3, 3, 4, 4, 5, 5, 6, 6, 7, 7, 8, 8, 9, 9, 10, 10, 11, 11, 12, 12, 13, 13}[far])
		if p.stopped(api.ErrForm, distance > len(p.text)) || p.stopped(api.ErrLong, len(p.text)+length > api.MaxText) {
			return
		}
		for range length {
			p.put(int(p.text[len(p.text)-distance]))
		}
	}
}
