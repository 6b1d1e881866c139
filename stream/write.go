package stream

import "rill/codes"

// writer writes blocks.
type writer struct {
	pen
	symbols, distances []string // the codes of kind 1
}

// Write gives a stream of a text of at most api.MaxText bytes, or the end of a
// stream that is at a whole byte, in one block: of kind 1, or of kind 0 where
// that is shorter. Every distance in such a text can be told, and in so few bits
// that a length with its distance never takes more than its bytes one by one.
func Write(text string) string {
	var symbols, bare writer
	symbols.coded(1, text)
	bare.stored(1, text)
	return shorter(symbols, bare)
}

// Part gives a piece of a stream, from a whole byte to a whole byte, of a text
// of at most api.MaxText bytes; another piece or the end can come behind it. A
// block of kind 1 has one of kind 0 without text behind it, since only that kind
// comes to a whole byte.
func Part(text string) string {
	var symbols, bare writer
	symbols.coded(0, text)
	symbols.stored(0, "")
	bare.stored(0, text)
	return shorter(symbols, bare)
}

// shorter gives what the one wrote that wrote less, the first one if both wrote
// as much.
func shorter(first, second writer) string {
	if len(second.bytes) < len(first.bytes) {
		return string(second.bytes)
	}
	return string(first.bytes)
}

// stored writes a block of kind 0.
func (w *writer) stored(last int, text string) {
	w.begin(last, 0)
	w.whole()
	w.number(len(text), 16)
	w.number(65535-len(text), 16)
	w.bytes = append(w.bytes, text...)
}

// coded writes a block of kind 1.
func (w *writer) coded(last int, text string) {
	w.symbols, _ = codes.Texts(fixedSymbols())
	w.distances, _ = codes.Texts(fixedDistances())
	w.begin(last, 1)
	w.all(text)
	w.code(w.symbols[blockEnd])
}

// begin writes what every block begins with.
func (w *writer) begin(last, kind int) {
	w.bit(last)
	w.number(kind, 2)
}

// all writes a text, what stood in it ahead as a length and a distance.
func (w *writer) all(text string) {
	past := remember(text)
	for at := 0; at < len(text); {
		length, distance := past.longest(at)
		if length == 0 {
			w.code(w.symbols[text[at]])
			at++
			continue
		}
		w.length(length)
		w.distance(distance)
		at += length
	}
}

// length writes the symbol that tells a length, and what is to be added.
func (w *writer) length(length int) {
	if length == greatest {
		w.code(w.symbols[greatLength])
		return
	}
	place, rest, added := placed(length-shortest, lengthSteps)
	w.code(w.symbols[firstLength+place])
	w.number(rest, added)
}

// distance writes the symbol that tells a distance, and what is to be added.
func (w *writer) distance(distance int) {
	place, rest, added := placed(distance-1, distanceSteps)
	w.code(w.distances[place])
	w.number(rest, added)
}
