package stream

import (
	"bytes"
	"compress/flate"
	"math/rand"
	"slices"
	"strings"
	"testing"

	"rill/api"
	"rill/codes"
)

// press makes letters bytes again; what is left of the last one is noughts.
func press(letters string) string {
	pressed := make([]byte, (len(letters)+7)/8)
	for i := range len(letters) {
		pressed[i/8] |= (letters[i] - '0') << (i % 8)
	}
	return string(pressed)
}

func low(value, n int) string {
	var b strings.Builder
	for i := range n {
		b.WriteByte('0' + byte(value>>i&1))
	}
	return b.String()
}

// maker makes streams, most of them right, with something wrong now and then.
type maker struct {
	*rand.Rand
	letters strings.Builder
	size    int  // of the text
	slips   bool // whether something may be wrong
}

func (m *maker) slip() bool {
	return m.slips && m.Intn(60) == 0
}

func (m *maker) block(last int) {
	m.letters.WriteString(low(last, 1))
	kind := m.Intn(3)
	if m.slip() {
		kind = 3
	}
	m.letters.WriteString(low(kind, 2))
	switch kind {
	case 0:
		m.stored()
	case 1:
		m.symbols(slices.Concat(times(144, 8), times(112, 9), times(24, 7), times(8, 8)), times(32, 5))
	case 2:
		m.kind2()
	}
}

func (m *maker) stored() {
	for m.letters.Len()%8 != 0 {
		m.letters.WriteString(low(m.Intn(2), 1))
	}
	n := m.Intn(12)
	other := 65535 - n
	if m.slip() {
		other ^= 1 << m.Intn(16)
	}
	m.letters.WriteString(low(n, 16) + low(other, 16))
	m.size += n
	for range n {
		m.letters.WriteString(low(m.Intn(256), 8))
	}
}

// split gives lengths that fit for some of many symbols, at least two, those
// that are named among them.
func (m *maker) split(many int, named ...int) []int {
	have := append(named, m.Perm(many)[:min(many, 2+m.Intn(12))]...)
	slices.Sort(have)
	have = slices.Compact(have)
	shape := []int{0}
	for len(shape) < len(have) {
		if i := m.Intn(len(shape)); shape[i] < 15 {
			shape[i]++
			shape = append(shape, shape[i])
		}
	}
	m.Shuffle(len(shape), func(i, j int) { shape[i], shape[j] = shape[j], shape[i] })
	lengths := make([]int, many)
	for i, symbol := range have {
		lengths[symbol] = shape[i]
	}
	return lengths
}

func (m *maker) kind2() {
	a, b := m.Intn(30), m.Intn(30)
	symbols := m.split(a+257, 256, 256+m.Intn(a+1), 256+m.Intn(a+1))
	distances := make([]int, b+1)
	switch m.Intn(4) {
	case 0:
	case 1:
		distances[m.Intn(b+1)] = 1
	default:
		if b > 0 {
			distances = m.split(b + 1)
		}
	}
	if m.slip() {
		distances[m.Intn(b+1)] ^= 1
	}
	if m.slip() {
		symbols[m.Intn(a+257)] ^= 1 << m.Intn(4)
	}
	if m.slip() {
		a, b = m.Intn(32), m.Intn(32)
	}
	m.letters.WriteString(low(a, 5) + low(b, 5))
	m.lists(slices.Concat(symbols, distances))
	m.symbols(symbols, distances)
}

// lists writes lengths, now one by one, now as runs.
func (m *maker) lists(list []int) {
	own := times(13, 4)
	own = append(own, times(6, 5)...)
	m.Shuffle(len(own), func(i, j int) { own[i], own[j] = own[j], own[i] })
	texts, _ := codes.Texts(own)
	if m.slip() {
		own[m.Intn(19)] ^= 1 << m.Intn(3)
	}
	m.letters.WriteString(low(15, 4))
	for _, symbol := range order {
		m.letters.WriteString(low(own[symbol], 3))
	}
	if m.slip() {
		m.letters.WriteString(texts[16] + low(m.Intn(4), 2))
	}
	for at := 0; at < len(list); {
		same := at
		for same < len(list) && list[same] == list[at] {
			same++
		}
		run := same - at
		if m.slip() {
			run += 1 + m.Intn(9)
		}
		switch {
		case list[at] == 0 && run >= 11 && m.Intn(8) > 0:
			run = min(run, 138)
			m.letters.WriteString(texts[18] + low(run-11, 7))
		case list[at] == 0 && run >= 3 && m.Intn(4) > 0:
			run = min(run, 10)
			m.letters.WriteString(texts[17] + low(run-3, 3))
		case at > 0 && list[at] == list[at-1] && run >= 3 && m.Intn(4) > 0:
			run = min(run, 6)
			m.letters.WriteString(texts[16] + low(run-3, 2))
		default:
			run = 1
			m.letters.WriteString(texts[list[at]])
		}
		at += run
	}
}

// symbols writes symbols that have codes, and the block's end. The codes are
// told even where the lengths do not fit: what is wrong comes ahead of them.
func (m *maker) symbols(symbols, distances []int) {
	texts, _ := codes.Texts(symbols)
	far, _ := codes.Texts(distances)
	if one := slices.Index(distances, 1); far == nil && one >= 0 {
		far = make([]string, len(distances))
		far[one] = "0"
	}
	if texts == nil {
		return
	}
	for range m.Intn(14) {
		symbol := m.coded(texts)
		switch {
		case symbol < 256:
			m.letters.WriteString(texts[symbol])
			m.size++
		case symbol > 256 && (symbol < 286 && far != nil || m.slip()):
			m.again(symbol, texts[symbol], far)
		}
	}
	m.letters.WriteString(texts[256])
}

// coded gives one of the symbols that have codes.
func (m *maker) coded(texts []string) int {
	for {
		if symbol := m.Intn(len(texts)); texts[symbol] != "" {
			return symbol
		}
	}
}

// again writes a length and a distance, one that the text has, if it is found.
func (m *maker) again(symbol int, text string, far []string) {
	if far == nil || symbol > 285 {
		m.letters.WriteString(text)
		return
	}
	told, added := measure(symbol-257, 2)
	if symbol == 285 {
		told, added = 255, 0
	}
	more := m.Intn(1 << added)
	for range 20 {
		distance := m.coded(far)
		least, bits := measure(distance, 1)
		back := m.Intn(1 << bits)
		if least+back < m.size || m.slip() {
			m.letters.WriteString(text + low(more, added) + far[distance] + low(back, bits))
			m.size += 3 + told + more
			return
		}
	}
}

// wantSpoken holds Read against the document's words.
func wantSpoken(t *testing.T, s string) api.Errno {
	t.Helper()
	text, taken, e := Read(s)
	wantText, wantTaken, want := spokenRead(s)
	if text != wantText || taken != wantTaken || e != want {
		t.Fatalf("Read(%x) = %q, %d, %d, want %q, %d, %d", s, text, taken, e, wantText, wantTaken, want)
	}
	return e
}

func TestReadMade(t *testing.T) {
	met := map[api.Errno]int{}
	for seed := range int64(1500) {
		m := &maker{Rand: rand.New(rand.NewSource(seed)), slips: seed%3 != 0}
		for range m.Intn(4) {
			m.block(0)
		}
		m.block(1)
		s := press(m.letters.String())
		met[wantSpoken(t, s+"rest"[:m.Intn(5)])]++
		for range 6 {
			wantSpoken(t, s[:m.Intn(len(s)+1)])
		}
		flipped := []byte(s)
		flipped[m.Intn(len(s))] ^= 1 << m.Intn(8)
		wantSpoken(t, string(flipped))
	}
	if met[api.OK] < 300 || met[api.ErrForm] < 300 {
		t.Errorf("what was met: %v", met)
	}
}

func TestReadFirstParts(t *testing.T) {
	for seed := range int64(40) {
		m := &maker{Rand: rand.New(rand.NewSource(seed))}
		for _, last := range []int{0, 0, 0, 1} {
			m.block(last)
		}
		s := press(m.letters.String())
		for n := range len(s) + 1 {
			wantSpoken(t, s[:n])
		}
	}
}

func TestReadAnything(t *testing.T) {
	r := rand.New(rand.NewSource(1))
	for range 20000 {
		s := make([]byte, r.Intn(40))
		r.Read(s)
		if len(s) > 0 && r.Intn(2) == 0 {
			s[0] = s[0]&^6 | 4 // more of kind 2
		}
		wantSpoken(t, string(s))
	}
}

func TestReadSpoiledLibrary(t *testing.T) {
	r := rand.New(rand.NewSource(2))
	for range 150 {
		text := make([]byte, r.Intn(400))
		for i := range text {
			text[i] = "aaabbcde \n"[r.Intn(10)]
		}
		var out bytes.Buffer
		w, _ := flate.NewWriter(&out, r.Intn(11)-1)
		w.Write(text)
		w.Close()
		wantSpoken(t, out.String())
		for range 5 {
			s := bytes.Clone(out.Bytes())
			s[r.Intn(len(s))] ^= 1 << r.Intn(8)
			wantSpoken(t, string(s))
			wantSpoken(t, string(s[:r.Intn(len(s))]))
		}
	}
}

// TestReadTextAhead: also where the stream is wrong or too long, the text that
// was told ahead of that is there.
func TestReadTextAhead(t *testing.T) {
	full := strings.Repeat("x", api.MaxText)
	for _, c := range []struct {
		s, text string
		e       api.Errno
	}{
		{"\x00\x01\x00\xfe\xffa\x07", "a", api.ErrForm},
		{"\x00\x01\x00\xfe\xffa", "a", api.ErrMore},
		{"\x01\x89\x13\x76\xec" + full + "y", full, api.ErrLong},
	} {
		if text, taken, e := Read(c.s); text != c.text || taken != 0 || e != c.e {
			t.Errorf("Read(%.20x) = %.20q, %d, %d, want %.20q, 0, %d", c.s, text, taken, e, c.text, c.e)
		}
	}
}
