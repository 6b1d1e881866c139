package stream

import (
	"math/rand"
	"strings"
	"testing"

	"rill/api"
)

// anything gives a text of n bytes, each one of the first few.
func anything(r *rand.Rand, n, few int) string {
	b := make([]byte, n)
	for i := range b {
		b[i] = byte(r.Intn(few))
	}
	return string(b)
}

func TestPen(t *testing.T) {
	var p pen
	p.number(5, 3)
	p.code("011")
	p.bit(1)
	p.number(3, 4)
	p.whole()
	p.whole()
	p.number(0xabcd, 16)
	if got, want := string(p.bytes), press("101"+"011"+"1"+"1100"+"00000")+"\xcd\xab"; got != want {
		t.Errorf("the pen wrote %x, want %x", got, want)
	}
	p.bit(1)
	if got := p.bytes[len(p.bytes)-1]; len(p.bytes) != 5 || got != 1 {
		t.Errorf("behind a whole byte: %x", p.bytes)
	}
}

// TestPlaced: each symbol up to the next one's least, held against measure.
func TestPlaced(t *testing.T) {
	for _, row := range []struct{ steps, symbols int }{{lengthSteps, 28}, {distanceSteps, 30}} {
		value := 0
		for place := range row.symbols {
			told, added := measure(place, row.steps)
			if told != value {
				t.Fatalf("the symbol at %d tells %d, want %d", place, told, value)
			}
			for rest := range 1 << added {
				if p, r, a := placed(value, row.steps); p != place || r != rest || a != added {
					t.Fatalf("placed(%d, %d) = %d, %d, %d, want %d, %d, %d", value, row.steps, p, r, a, place, rest, added)
				}
				value++
			}
		}
	}
}

// wantLongest holds longest against what is found by trying every distance.
func wantLongest(t *testing.T, text string) {
	t.Helper()
	past := remember(text)
	for at := range len(text) {
		length, distance := 0, 0
		for far := 1; far <= at; far++ {
			n := 0
			for at+n < len(text) && n < 258 && text[at+n] == text[at+n-far] {
				n++
			}
			if n >= 3 && n > length {
				length, distance = n, far
			}
		}
		if l, d := past.longest(at); l != length || d != distance {
			t.Fatalf("longest at %d of %q = %d, %d, want %d, %d", at, text, l, d, length, distance)
		}
	}
}

func TestLongest(t *testing.T) {
	r := rand.New(rand.NewSource(1))
	for _, text := range []string{"", "a", "aa", "aaa", "aaaa", "aaaaa", "abcab", "abcabc", "abcxabcyabcx", strings.Repeat("a", 600), strings.Repeat("ab", 300)} {
		wantLongest(t, text)
	}
	for range 300 {
		wantLongest(t, anything(r, r.Intn(300), 1+r.Intn(4)))
	}
}

// wantWritten holds that Read gives a text back, all bytes taken, and that the
// stream is no longer than one of either kind.
func wantWritten(t *testing.T, text string) string {
	t.Helper()
	s := Write(text)
	if got, taken, e := Read(s); got != text || taken != len(s) || e != api.OK {
		t.Fatalf("Read of Write(%.60q) (%d bytes) = %.60q (%d bytes), %d of %d, %d", text, len(text), got, len(got), taken, len(s), e)
	}
	if bare := 5 + len(text); len(s) > bare {
		t.Errorf("Write(%.60q) has %d bytes, a block of kind 0 has %d", text, len(s), bare)
	}
	if long := (3 + 9*len(text) + 7 + 7) / 8; len(s) > long {
		t.Errorf("Write(%.60q) has %d bytes, byte by byte it is at most %d", text, len(s), long)
	}
	return s
}

func TestWriteKinds(t *testing.T) {
	for _, c := range []struct{ text, s string }{
		{"", "\x03\x00"},
		{"a", "\x4b\x04\x00"},
		{"\x90\x91\x92", press("110" + "110010000" + "110010001" + "110010010" + "0000000")},
		{"aaaa", press("110" + "10010001" + "0000001" + "00000" + "0000000")},
		{strings.Repeat("a", 259), press("110" + "10010001" + "11000101" + "00000" + "0000000")},
	} {
		if s := wantWritten(t, c.text); s != c.s {
			t.Errorf("Write(%q) = %x, want %x", c.text, s, c.s)
		}
	}
	high := ""
	for b := 255; b >= 144; b-- {
		high += string([]byte{byte(b)})
	}
	if s := wantWritten(t, high); s != "\x01\x70\x00\x8f\xff"+high {
		t.Errorf("Write(%q) = %x, want a block of kind 0", high, s)
	}
}

// TestWriteAgain: what stood ahead is told again, near and far, and the shorter
// block is taken at the border of the two kinds.
func TestWriteAgain(t *testing.T) {
	r := rand.New(rand.NewSource(2))
	for _, n := range []int{20, 258, 600, 2500} {
		text := anything(r, n, 256)
		if s := wantWritten(t, text+text); len(s) > n+n/8+16+4*(1+n/200) {
			t.Errorf("%d bytes and these again are %d bytes", n, len(s))
		}
	}
	for n := range 200 {
		wantWritten(t, strings.Repeat("a", n)+anything(r, n, 256))
		wantWritten(t, anything(r, 40, 256)+strings.Repeat("\xff\x90", n))
	}
}

func TestWriteAnything(t *testing.T) {
	r := rand.New(rand.NewSource(3))
	for range 1000 {
		wantWritten(t, anything(r, r.Intn(500), []int{1, 2, 3, 10, 256}[r.Intn(5)]))
	}
	for _, few := range []int{1, 2, 3, 10, 256} {
		wantWritten(t, anything(r, api.MaxText, few))
	}
}

func TestPartKinds(t *testing.T) {
	for _, c := range []struct{ text, s string }{
		{"", "\x00\x00\x00\xff\xff"},
		{"a", "\x00\x01\x00\xfe\xffa"},
		{strings.Repeat("a", 259), press("010"+"10010001"+"11000101"+"00000"+"0000000"+"000") + "\x00\x00\xff\xff"},
	} {
		if s := Part(c.text); s != c.s {
			t.Errorf("Part(%q) = %x, want %x", c.text, s, c.s)
		}
	}
}

// wantParts holds that pieces of a stream can be read up to the end of each of
// them, and with an end behind them to the end.
func wantParts(t *testing.T, texts ...string) {
	t.Helper()
	s, all := "", ""
	for _, text := range texts {
		end := s + Write(text)
		part := Part(text)
		if len(part) > 5+len(text) {
			t.Errorf("Part(%.60q) (%d bytes) has %d bytes", text, len(text), len(part))
		}
		s += part
		all += text
		if got, _, e := Read(s); got != all || e != api.ErrMore {
			t.Fatalf("Read of the parts of %.60q = %.60q, %d", texts, got, e)
		}
		for _, end := range []string{end, s + Write("")} {
			if got, taken, e := Read(end); got != all || taken != len(end) || e != api.OK {
				t.Fatalf("Read of the parts of %.60q with an end = %.60q, %d of %d, %d", texts, got, taken, len(end), e)
			}
		}
	}
}

func TestParts(t *testing.T) {
	r := rand.New(rand.NewSource(4))
	wantParts(t, "", "", "a", "", "ab", strings.Repeat("a", 300), "")
	for n := range 40 { // the symbols end at each bit of a byte
		wantParts(t, strings.Repeat("\x90", 9)+strings.Repeat("\x00", n), strings.Repeat("x", n))
		wantParts(t, strings.Repeat("abc\xff", n)+anything(r, n, 3))
	}
	for range 200 {
		var texts []string
		for range r.Intn(8) {
			texts = append(texts, anything(r, r.Intn(200), []int{1, 2, 10, 256}[r.Intn(4)]))
		}
		wantParts(t, texts...)
	}
	for _, few := range []int{1, 2, 10, 256} {
		wantParts(t, anything(r, api.MaxText, few))
	}
}
