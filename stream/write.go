package stream

import "rill/codes"

// writer writes a block.
type writer struct {
	pen
	symbols, distances []string // the codes of kind 1
}

// Write gives a stream of a text of at most api.MaxText bytes, in one block: of
// kind 1, or of kind 0 where that is shorter. Every distance in such a text can
// be told, and in so few bits that a length with its distance never takes more
// than its bytes one by one.
func Write(text string) string {
	symbols, bare := coded(text), stored(text)
	if len(bare) < len(symbols) {
		return bare
	}
	return symbols
}

// stored gives a last block of kind 0.
func stored(text string) string {
	var w writer
	w.begin(0)
	w.whole()
	w.number(len(text), 16)
	w.number(65535-len(text), 16)
	return string(append(w.bytes, text...))
}

// coded gives a last block of kind 1.
func coded(text string) string {
	var w writer
	w.symbols, _ = codes.Texts(fixedSymbols())
	w.distances, _ = codes.Texts(fixedDistances())
	w.begin(1)
	w.all(text)
	w.code(w.symbols[blockEnd])
	return string(w.bytes)
}

// begin writes what a last block begins with.
func (w *writer) begin(kind int) {
	w.bit(1)
	w.number(kind, 2)
}

// all writes a text, what stood in it ahead as a length and a distance.
func (w *writer) all(text string) {
	past := remember(text)
	for at := 0; at < len(text); {
		length, distance := past.longest(at)
		if length == 0 {
			w.code(w.symbols[text[at]])
			at++
			continue
		}
		w.length(length)
		w.distance(distance)
		at += length
	}
}

// length writes the symbol that tells a length, and what is to be added.
func (w *writer) length(length int) {
	if length == greatest {
		w.code(w.symbols[greatLength])
		return
	}
	place, rest, added := placed(length-shortest, lengthSteps)
	w.code(w.symbols[firstLength+place])
	w.number(rest, added)
}

// distance writes the symbol that tells a distance, and what is to be added.
func (w *writer) distance(distance int) {
	place, rest, added := placed(distance-1, distanceSteps)
	w.code(w.distances[place])
	w.number(rest, added)
}
