package rill_test

import (
	"compress/flate"
	"io"
	"math/rand"
	"strings"
	"testing"

	"rill/api"
	"rill/rill"
)

// bound is how many bytes the stream of a text may have.
func bound(text string) int {
	most := len(text) + len(text)/8 + 16
	if text != "" && strings.Count(text, text[:1]) == len(text) {
		most = min(most, len(text)/20+32)
	}
	return most
}

// wantDeflate holds a text against P5: that it comes back, with all bytes taken,
// and that the stream is not too long.
func wantDeflate(t *testing.T, why, text string) {
	t.Helper()
	s, e := rill.Deflate(text)
	if e != api.OK {
		t.Errorf("%s: Deflate(%.60q) (%d bytes): %d", why, text, len(text), e)
		return
	}
	wantInflate(t, why, s, text, len(s), api.OK)
	if most := bound(text); len(s) > most {
		t.Errorf("%s: Deflate(%.60q) (%d bytes) has %d bytes, may have %d", why, text, len(text), len(s), most)
	}
}

// random gives a text of n bytes, each one of the first few.
func random(r *rand.Rand, n, few int) string {
	b := make([]byte, n)
	for i := range b {
		b[i] = byte(r.Intn(few))
	}
	return string(b)
}

// every has all 256 bytes, in an order by the step from one to the next, which
// is odd.
func every(step int) string {
	b := make([]byte, 256)
	for i := range b {
		b[i] = byte(i * step)
	}
	return string(b)
}

func TestP5Least(t *testing.T) {
	wantDeflate(t, "nothing", "")
	for first := range 256 {
		wantDeflate(t, "one byte", string([]byte{byte(first)}))
		for second := 0; second < 256; second += 5 {
			wantDeflate(t, "two bytes", string([]byte{byte(first), byte(second)}))
		}
	}
}

// TestP5Short: all texts of three kinds of bytes, up to a length.
func TestP5Short(t *testing.T) {
	many := 1
	for n := range 9 {
		for index := range many {
			b := make([]byte, n)
			for i := range b {
				b[i] = "a\x00\xff"[index%3]
				index /= 3
			}
			wantDeflate(t, "a short text", string(b))
		}
		many *= 3
	}
}

func TestP5Most(t *testing.T) {
	r := rand.New(rand.NewSource(1))
	for _, few := range []int{1, 2, 26, 256} {
		for _, n := range []int{api.MaxText - 1, api.MaxText} {
			wantDeflate(t, "the most", random(r, n, few))
		}
		for _, n := range []int{api.MaxText + 1, api.MaxText + 2, 2 * api.MaxText, 70000, 1 << 20} {
			if s, e := rill.Deflate(random(r, n, few)); s != "" || e != api.ErrLong {
				t.Errorf("Deflate of %d bytes: %d bytes, %d, want none, ErrLong", n, len(s), e)
			}
		}
	}
}

func TestP5OneKind(t *testing.T) {
	for n := range api.MaxText + 1 {
		wantDeflate(t, "all of one kind", strings.Repeat("a", n))
	}
	for b := range 256 {
		for _, n := range []int{1, 2, 3, 4, 5, 19, 20, 257, 258, 259, 260, 261, 262, 516, 517, 518, 4999, 5000} {
			wantDeflate(t, "all of one kind", strings.Repeat(string([]byte{byte(b)}), n))
		}
	}
}

// TestP5Distances: bytes that come again behind each distance that is the least
// or the most that a symbol tells.
func TestP5Distances(t *testing.T) {
	r := rand.New(rand.NewSource(2))
	for _, one := range distances() {
		for _, far := range []int{one.least, one.least + 1<<one.bits - 1} {
			for _, length := range []int{1, 2, 3, 4, 258} {
				if far+length > api.MaxText {
					continue
				}
				first := random(r, far, 256)
				again := first + strings.Repeat(first, length)[:length]
				wantDeflate(t, "again from the beginning", again)
				wantDeflate(t, "again from within", random(r, min(far, api.MaxText-len(again)), 256)+again)
			}
		}
	}
	wantDeflate(t, "the farthest", "abc"+random(r, api.MaxText-6, 256)+"abc")
}

func TestP5Lengths(t *testing.T) {
	r := rand.New(rand.NewSource(3))
	for length := range 600 {
		first := random(r, length, 256)
		wantDeflate(t, "so many again, at once", "x"+first+first+"y")
		wantDeflate(t, "so many again, with others between", first+random(r, 1000, 256)+first)
		wantDeflate(t, "so many again, one by one", "abc"+strings.Repeat("abc", length)[:length]+"x")
	}
	for _, unit := range []string{"ab", "abc", "\xff\x90\xaa\xbb", every(1), every(77)} {
		for _, n := range []int{1, 2, 3, 19, api.MaxText / len(unit)} {
			wantDeflate(t, "over and over", strings.Repeat(unit, min(n, api.MaxText/len(unit))))
		}
	}
}

func TestP5HardlyRepeats(t *testing.T) {
	all := ""
	for step := 1; len(all) <= api.MaxText-256; step += 2 {
		wantDeflate(t, "all bytes", every(step))
		all += every(step)
		wantDeflate(t, "all bytes, in many orders", all)
	}
	wantDeflate(t, "all bytes, in many orders, the most", (all + every(201))[:api.MaxText])
	high := ""
	for b := 144; b < 256; b++ {
		high += string([]byte{byte(b)})
		wantDeflate(t, "bytes with long codes", high)
	}
	wantDeflate(t, "two bytes that change", mixed(api.MaxText))
	r := rand.New(rand.NewSource(4))
	for n := 0; n <= api.MaxText; n += 53 {
		high := []byte(random(r, n, 112))
		for i := range high {
			high[i] += 144
		}
		wantDeflate(t, "any bytes with long codes", string(high))
		wantDeflate(t, "any bytes", random(r, n, 256))
	}
}

func TestP5Anything(t *testing.T) {
	r := rand.New(rand.NewSource(5))
	for range 1500 {
		text := ""
		for range r.Intn(6) {
			part := random(r, r.Intn(150), []int{1, 2, 4, 26, 256}[r.Intn(5)])
			text += strings.Repeat(part, 1+r.Intn(3))
			if r.Intn(3) == 0 {
				text += text[r.Intn(len(text)+1):]
			}
		}
		wantDeflate(t, "anything", text[:min(len(text), api.MaxText)])
	}
}

// TestP5Library: another program that reads such streams gives the text too.
func TestP5Library(t *testing.T) {
	r := rand.New(rand.NewSource(6))
	texts := []string{"", "a", strings.Repeat("a", api.MaxText), every(1), strings.Repeat(every(3), 19), random(r, api.MaxText, 256)}
	for range 300 {
		texts = append(texts, random(r, r.Intn(600), 1+r.Intn(256)))
	}
	for _, text := range texts {
		s, _ := rill.Deflate(text)
		in := strings.NewReader(s)
		got, err := io.ReadAll(flate.NewReader(in))
		if string(got) != text || err != nil || in.Len() > 0 {
			t.Errorf("the library reads Deflate(%.60q) as %.60q, %v, with %d bytes left", text, got, err, in.Len())
		}
	}
}

// TestP2Deflate: the answer hangs on the text alone.
func TestP2Deflate(t *testing.T) {
	r := rand.New(rand.NewSource(7))
	var texts, streams []string
	for range 200 {
		texts = append(texts, random(r, r.Intn(400), 1+r.Intn(20)))
		s, _ := rill.Deflate(texts[len(texts)-1])
		streams = append(streams, s)
	}
	for i, at := range r.Perm(len(texts)) {
		if i%5 == 0 {
			rill.Deflate(strings.Repeat("x", api.MaxText+1))
		}
		if s, e := rill.Deflate(strings.Clone(texts[at])); s != streams[at] || e != api.OK {
			t.Errorf("Deflate(%.60q) = %x, %d, and %x ahead of that", texts[at], s, e, streams[at])
		}
	}
}
