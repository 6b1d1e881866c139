package stream

// past finds what stood in a text ahead of a place.
type past struct {
	text    string
	earlier []int // for each place the last one ahead at which the same 3 bytes begin, or -1
}

// remember makes the past of a text. It goes by 3 bytes, the shortest length:
// where fewer are the same, nothing can be told again.
func remember(text string) past {
	earlier := make([]int, len(text))
	latest := map[string]int{}
	for at := range earlier {
		earlier[at] = -1
		if len(text)-at < shortest {
			continue
		}
		first := text[at : at+shortest]
		if place, ok := latest[first]; ok {
			earlier[at] = place
		}
		latest[first] = at
	}
	return past{text, earlier}
}

// longest gives how many bytes from a place on stand ahead as well, at most, and
// how far back: where they stand nearest, since this takes the fewest bits. The
// length is 0 where they are too few.
func (p past) longest(at int) (length, distance int) {
	most := min(greatest, len(p.text)-at)
	for place := p.earlier[at]; place >= 0 && length < most; place = p.earlier[place] {
		if n := p.alike(place, at, most); n > length {
			length, distance = n, at-place
		}
	}
	return length, distance
}

// alike tells how many bytes from two places on are the same, at most so many.
// Those from the first place may go on into those from the second one, as those
// that a distance tells again may.
func (p past) alike(first, second, most int) int {
	n := 0
	for n < most && p.text[first+n] == p.text[second+n] {
		n++
	}
	return n
}
