package stream

import "rill/api"

// stop is what a reading gives up with, from however deep: why it goes no
// further.
type stop struct{ why api.Errno }

// bits gives the bits of a string, of each byte from its lowest bit up.
type bits struct {
	from string
	at   int // the byte that the next bit is of
	low  int // how many of its bits were taken
}

// bit takes a bit; where there is none, it gives up.
func (b *bits) bit() int {
	if b.at == len(b.from) {
		panic(stop{api.ErrMore})
	}
	bit := int(b.from[b.at]) >> b.low & 1
	b.low++
	if b.low == 8 {
		b.whole()
	}
	return bit
}

// number takes a number of n bits.
func (b *bits) number(n int) int {
	value := 0
	for i := range n {
		value |= b.bit() << i
	}
	return value
}

// whole passes over the bits up to the next whole byte.
func (b *bits) whole() {
	if b.low > 0 {
		b.at++
		b.low = 0
	}
}

// taken tells how many bytes were taken, the last one perhaps in part.
func (b *bits) taken() int {
	if b.low > 0 {
		return b.at + 1
	}
	return b.at
}
