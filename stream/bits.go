package stream

import (
	"strings"

	"rill/api"
)

// stop is what a reading gives up with, from however deep: why it goes no
// further.
type stop struct{ why api.Errno }

// place is where a bit stands.
type place struct {
	at  int // the byte that it is of
	low int // how many bits of that byte are ahead of it
}

// bits gives the bits of a string, of each byte from its lowest bit up.
type bits struct {
	from  string
	place       // of the next bit
	kept  place // where a reading that gave up is begun again
}

// bit takes a bit; where there is none, it gives up.
func (b *bits) bit() int {
	if b.at == len(b.from) {
		panic(stop{api.ErrMore})
	}
	bit := int(b.from[b.at]) >> b.low & 1
	b.low++
	if b.low == 8 {
		b.whole()
	}
	return bit
}

// number takes a number of n bits.
func (b *bits) number(n int) int {
	value := 0
	for i := range n {
		value |= b.bit() << i
	}
	return value
}

// whole passes over the bits up to the next whole byte.
func (b *bits) whole() {
	if b.low > 0 {
		b.at++
		b.low = 0
	}
}

// keep says that the bits up to here are done with.
func (b *bits) keep() {
	b.kept = b.place
}

// back goes back to the first bit that is not done with. Of the bytes only those
// from there on are left, as memory of their own: what was handed in is let go.
func (b *bits) back() {
	b.from = strings.Clone(b.from[b.kept.at:])
	b.kept.at = 0
	b.place = b.kept
}
