package stream

// pen writes bits, into each byte from its lowest bit up.
type pen struct {
	bytes []byte
	used  int // bits of the last byte, 0 where a new one is to be begun
}

// bit writes a bit.
func (p *pen) bit(bit int) {
	if p.used == 0 {
		p.bytes = append(p.bytes, 0)
	}
	p.bytes[len(p.bytes)-1] |= byte(bit << p.used)
	p.used = (p.used + 1) % 8
}

// number writes a number of n bits.
func (p *pen) number(value, n int) {
	for i := range n {
		p.bit(value >> i & 1)
	}
}

// code writes a code that is told as noughts and ones.
func (p *pen) code(text string) {
	for i := range len(text) {
		p.bit(int(text[i] - '0'))
	}
}

// whole goes on to the next whole byte, over bits that are noughts.
func (p *pen) whole() {
	p.used = 0
}
