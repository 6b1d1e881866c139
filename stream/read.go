// Package stream reads and writes streams: see DOC.md, section 'Words'.
package stream

import (
	"rill/api"
	"rill/codes"
)

// Reader goes through a stream, bit by bit, as its bytes come. What it has of a
// block is changed only together with the bits that are done with, so that it
// can go on from there when more bytes have come.
type Reader struct {
	bits
	text  []byte
	last  bool  // whether no block comes behind the one that was begun
	bare  int   // bytes of a block of kind 0 that are still to come
	plan  *plan // by which symbols come, up to the block's end
	fixed *plan // of kind 1, kept since there may be many such blocks
}

// Read goes through a stream up to the end of its last block, or up to what
// stops it ahead of that: api.ErrForm, api.ErrLong or api.ErrMore. It gives the
// text that was there by then, and, if nothing stopped it, how many bytes it
// took.
func Read(s string) (string, int, api.Errno) {
	var r Reader
	text, left, why := r.Feed(s)
	if why != api.OK {
		return text, 0, why
	}
	return text, len(s) - left, api.OK
}

// Feed goes on through a stream by the next of its bytes. It gives the text that
// is new by them, how many of them are left behind the stream's end, and what
// stopped it, as Read does; behind api.ErrForm and api.ErrLong nothing may be
// fed.
func (r *Reader) Feed(s string) (text string, left int, why api.Errno) {
	r.from += s
	told := len(r.text)
	why = r.run()
	text = string(r.text[told:])
	if why != api.OK {
		r.back()
		return text, 0, why
	}
	r.whole()
	left = len(r.from) - r.at
	*r = Reader{last: true} // at its end, and nothing else is asked for any more
	return text, left, api.OK
}

// run reads all blocks that there are, and tells what stopped it.
func (r *Reader) run() (why api.Errno) {
	defer func() {
		switch gave := recover().(type) {
		case nil:
		case stop:
			why = gave.why
		default:
			panic(gave)
		}
	}()
	r.blocks()
	return api.OK
}

// wrong gives up, since the stream is none.
func wrong() {
	panic(stop{api.ErrForm})
}

// blocks reads block behind block, up to the end of the last one.
func (r *Reader) blocks() {
blocks:
	for {
		for r.bare > 0 {
			r.put(byte(r.number(8)))
			r.bare--
			r.keep()
		}
		for r.plan != nil {
			symbol := r.symbol(r.plan.symbols)
			switch {
			case symbol < blockEnd:
				r.put(byte(symbol))
			case symbol > blockEnd:
				r.again(symbol, r.plan.distances)
			default:
				r.plan = nil
				r.keep()
				continue blocks
			}
			r.keep()
		}
		if r.last {
			break blocks
		}
		r.begin()
	}
}

// begin reads what stands in a block ahead of its text.
func (r *Reader) begin() {
	last := r.bit() == 1
	switch r.number(2) {
	case 0:
		r.bare = r.size()
	case 1:
		r.plan = r.kind1()
	case 2:
		r.plan = r.kind2()
	default:
		wrong()
	}
	r.last = last
	r.keep()
}

// size reads how many bytes a block of kind 0 has.
func (r *Reader) size() int {
	r.whole()
	n := r.number(16)
	if r.number(16) != 65535-n {
		wrong()
	}
	return n
}

// symbol reads a symbol by its code.
func (r *Reader) symbol(set codes.Set) int {
	symbol, ok := set.Symbol(r.bit)
	if !ok {
		wrong()
	}
	return symbol
}

// put adds a byte to the text.
func (r *Reader) put(b byte) {
	r.fits(1)
	r.text = append(r.text, b)
}

// fits gives up if the text has no room for n bytes more.
func (r *Reader) fits(n int) {
	if n > api.MaxText-len(r.text) {
		panic(stop{api.ErrLong})
	}
}

// again reads what is behind a symbol that tells a length, and adds those bytes
// of the text again: one by one, since they may be some of these very ones.
func (r *Reader) again(symbol int, distances codes.Set) {
	if symbol > greatLength || distances.Empty() {
		wrong()
	}
	length := r.length(symbol)
	distance := r.distance(distances)
	if distance > len(r.text) {
		wrong()
	}
	r.fits(length)
	for range length {
		r.text = append(r.text, r.text[len(r.text)-distance])
	}
}

// length reads what is to be added to the length that the symbol tells.
func (r *Reader) length(symbol int) int {
	if symbol == greatLength {
		return greatest
	}
	told, added := measure(symbol-firstLength, lengthSteps)
	return shortest + told + r.number(added)
}

// distance reads a distance.
func (r *Reader) distance(set codes.Set) int {
	symbol := r.symbol(set)
	if symbol > lastDistance {
		wrong()
	}
	told, added := measure(symbol, distanceSteps)
	return 1 + told + r.number(added)
}
