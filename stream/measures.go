package stream

const (
	blockEnd      = 256 // the symbol that ends a block
	firstLength   = 257 // the first symbol that tells a length
	greatLength   = 285 // the last one, which stands out of the row
	shortest      = 3   // the length that firstLength tells
	greatest      = 258 // the length that greatLength tells
	lastDistance  = 29  // the last symbol that tells a distance
	lengthSteps   = 2   // 4 symbols tell lengths with as many bits to be added
	distanceSteps = 1   // 2 symbols tell distances with as many bits to be added
)

// measure gives what the symbol at a place in its row tells, counted from what
// the first one does, and how many bits of a number to be added follow. Lengths
// and distances grow alike: by 1 at first, then twice as fast with every
// 1 << steps symbols.
func measure(place, steps int) (int, int) {
	if place < 1<<steps {
		return place, 0
	}
	added := place>>steps - 1
	within := place & (1<<steps - 1)
	return (1<<steps + within) << added, added
}

// placed turns measure round: it gives the place of the symbol that tells a
// value, what is to be added, and in how many bits.
func placed(value, steps int) (int, int, int) {
	place := 0
	for {
		next, _ := measure(place+1, steps)
		if next > value {
			break
		}
		place++
	}
	told, added := measure(place, steps)
	return place, value - told, added
}
