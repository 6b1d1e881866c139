// Package stream reads and writes streams: see DOC.md, section 'Words'.
package stream

import (
	"rill/api"
	"rill/codes"
)

// reader goes through a stream, bit by bit.
type reader struct {
	bits
	text  []byte
	fixed *plan // of kind 1, kept since there may be many such blocks
}

// Read goes through a stream up to the end of its last block, or up to what
// stops it ahead of that: api.ErrForm, api.ErrLong or api.ErrMore. It gives the
// text that was there by then, and, if nothing stopped it, how many bytes it
// took.
func Read(s string) (string, int, api.Errno) {
	r := reader{bits: bits{from: s}}
	if why := r.run(); why != api.OK {
		return string(r.text), 0, why
	}
	return string(r.text), r.taken(), api.OK
}

// run reads all blocks, and tells what stopped it.
func (r *reader) run() (why api.Errno) {
	defer func() {
		switch gave := recover().(type) {
		case nil:
		case stop:
			why = gave.why
		default:
			panic(gave)
		}
	}()
	r.blocks()
	return api.OK
}

// wrong gives up, since the stream is none.
func wrong() {
	panic(stop{api.ErrForm})
}

// blocks reads block behind block, up to the end of the last one.
func (r *reader) blocks() {
	var p *plan
blocks:
	for last := false; !last; {
		last = r.bit() == 1
		switch r.number(2) {
		case 0:
			r.stored()
			continue blocks
		case 1:
			p = r.kind1()
		case 2:
			p = r.kind2()
		default:
			wrong()
		}
		for {
			symbol := r.symbol(p.symbols)
			switch {
			case symbol < blockEnd:
				r.put(byte(symbol))
			case symbol > blockEnd:
				r.again(symbol, p.distances)
			default:
				continue blocks
			}
		}
	}
}

// stored reads a block of kind 0.
func (r *reader) stored() {
	r.whole()
	n := r.number(16)
	if r.number(16) != 65535-n {
		wrong()
	}
	for range n {
		r.put(byte(r.number(8)))
	}
}

// symbol reads a symbol by its code.
func (r *reader) symbol(set codes.Set) int {
	symbol, ok := set.Symbol(r.bit)
	if !ok {
		wrong()
	}
	return symbol
}

// put adds a byte to the text.
func (r *reader) put(b byte) {
	r.fits(1)
	r.text = append(r.text, b)
}

// fits gives up if the text has no room for n bytes more.
func (r *reader) fits(n int) {
	if n > api.MaxText-len(r.text) {
		panic(stop{api.ErrLong})
	}
}

// again reads what is behind a symbol that tells a length, and adds those bytes
// of the text again: one by one, since they may be some of these very ones.
func (r *reader) again(symbol int, distances codes.Set) {
	if symbol > greatLength || distances.Empty() {
		wrong()
	}
	length := r.length(symbol)
	distance := r.distance(distances)
	if distance > len(r.text) {
		wrong()
	}
	r.fits(length)
	for range length {
		r.text = append(r.text, r.text[len(r.text)-distance])
	}
}

// length reads what is to be added to the length that the symbol tells.
func (r *reader) length(symbol int) int {
	if symbol == greatLength {
		return greatest
	}
	told, added := measure(symbol-firstLength, lengthSteps)
	return shortest + told + r.number(added)
}

// distance reads a distance.
func (r *reader) distance(set codes.Set) int {
	symbol := r.symbol(set)
	if symbol > lastDistance {
		wrong()
	}
	told, added := measure(symbol, distanceSteps)
	return 1 + told + r.number(added)
}
