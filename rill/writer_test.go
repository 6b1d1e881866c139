package rill_test

import (
	"math"
	"math/rand"
	"strings"
	"testing"
	"unsafe"

	"rill/api"
	"rill/rill"
)

func newWriter(t *testing.T, channels int) *rill.Writer {
	t.Helper()
	w, e := rill.NewWriter(channels)
	if w == nil || e != api.OK {
		t.Fatalf("NewWriter(%d): a writer: %v, %d", channels, w != nil, e)
	}
	return w
}

func wantWrite(t *testing.T, w *rill.Writer, channel int, s string, n int, e api.Errno) {
	t.Helper()
	if gotN, got := w.Write(channel, s); gotN != n || got != e {
		t.Errorf("Write(%d, %.30q) (%d bytes) = %d, %d, want %d, %d", channel, s, len(s), gotN, got, n, e)
	}
}

func wantErrno(t *testing.T, what string, got, want api.Errno) {
	t.Helper()
	if got != want {
		t.Errorf("%s = %d, want %d", what, got, want)
	}
}

// wantWire holds that all bytes that are to go over are a stream of this text:
// one that goes on, or one that is at its end.
func wantWire(t *testing.T, why string, s, text string, ended bool) {
	t.Helper()
	if ended {
		wantInflate(t, why, s, text, len(s), api.OK)
	} else {
		wantInflate(t, why, s, text, 0, api.ErrMore)
	}
}

// framed makes frames of one channel alone.
func framed(channel int, s string) string {
	text := ""
	for len(s) > 0 {
		n := min(len(s), 20)
		text += string([]byte{byte(channel), byte(n)}) + s[:n]
		s = s[n:]
	}
	return text
}

func TestP6NewWriter(t *testing.T) {
	for _, channels := range []int{1, 2, 3, 4, 5, 6, 7, 8} {
		w := newWriter(t, channels)
		for channel := range channels {
			wantWrite(t, w, channel, "a", 1, api.OK)
		}
		wantWrite(t, w, channels, "a", 0, api.ErrChannel)
	}
	for _, channels := range []int{0, -1, 9, 10, 256 + 1, 1<<32 + 1, math.MaxInt, math.MinInt, math.MinInt + 1} {
		if w, e := rill.NewWriter(channels); w != nil || e != api.ErrChannel {
			t.Errorf("NewWriter(%d): a writer: %v, %d", channels, w != nil, e)
		}
	}
}

func TestP6WriteChannel(t *testing.T) {
	w := newWriter(t, 3)
	for _, channel := range []int{-1, 3, 8, 256, 1 << 32, math.MaxInt, math.MinInt} {
		wantWrite(t, w, channel, "a", 0, api.ErrChannel)
		wantWrite(t, w, channel, "", 0, api.ErrChannel)
	}
	w.Close()
	for _, channel := range []int{-1, 3, math.MaxInt, math.MinInt} {
		wantWrite(t, w, channel, "a", 0, api.ErrChannel) // named ahead of ErrClosed
	}
	for channel := range 3 {
		wantWrite(t, w, channel, "a", 0, api.ErrClosed)
		wantWrite(t, w, channel, "", 0, api.ErrClosed)
	}
	wantWire(t, "nothing was taken", w.Wire(1000), "", true)
}

func TestP6Waiting(t *testing.T) {
	x := strings.Repeat("x", 1000)
	for _, size := range []int{199, 200, 201, 1000} {
		w := newWriter(t, 2)
		wantWrite(t, w, 1, x[:size], min(size, 200), api.OK)
		wantWrite(t, w, 1, x, 200-min(size, 200), api.OK)
		wantWrite(t, w, 1, "y", 0, api.OK)
		wantWrite(t, w, 1, "", 0, api.OK)
		wantWrite(t, w, 0, x[:size], min(size, 200), api.OK) // of each channel
		w.Flush()
		wantWrite(t, w, 1, x, 200, api.OK) // the room is there again
	}
	w := newWriter(t, 1)
	for range 200 {
		wantWrite(t, w, 0, "a", 1, api.OK)
	}
	wantWrite(t, w, 0, "a", 0, api.OK)
	for range 3 {
		w.Tick()
	}
	wantWrite(t, w, 0, x, 200, api.OK) // by a Tick as by a Flush
}

// TestP6FirstBytes: it is the first bytes that are taken.
func TestP6FirstBytes(t *testing.T) {
	w := newWriter(t, 1)
	all := every(1)
	wantWrite(t, w, 0, all[:190], 190, api.OK)
	wantWrite(t, w, 0, all[190:], 10, api.OK)
	w.Flush()
	wantWire(t, "the first ones", w.Wire(1000), framed(0, all[:200]), false)
}

func TestP6Written(t *testing.T) {
	x := strings.Repeat("x", 1000)
	w := newWriter(t, 8)
	for range 7 {
		wantWrite(t, w, 2, x, 200, api.OK)
		w.Flush()
	}
	wantWrite(t, w, 0, x[:99], 99, api.OK)
	wantWrite(t, w, 7, x, 1, api.OK)
	for channel := range 8 {
		wantWrite(t, w, channel, x, 0, api.OK)
		wantWrite(t, w, channel, "", 0, api.OK)
	}
	w.Flush()
	wantWrite(t, w, 0, "x", 0, api.OK) // a flush gives no room of this kind
	s := w.Wire(math.MaxInt)
	text := strings.Repeat(framed(2, x[:200]), 7) + "\x00\x14" + x[:20] + "\x07\x01x" + framed(0, x[:79])
	wantWire(t, "all that was taken", s, text, false)
	w.Close()
	wantWire(t, "all that was taken, and the end", s+w.Wire(math.MaxInt), text, true)
}

// TestP6MostText: a flush behind each byte makes the most text, and it is less
// than a text may have.
func TestP6MostText(t *testing.T) {
	w := newWriter(t, 8)
	s, text := "", ""
	for i := range api.MaxWritten {
		wantWrite(t, w, i%8, string([]byte{byte(i)}), 1, api.OK)
		wantErrno(t, "Flush", w.Flush(), api.OK)
		s += w.Wire(math.MaxInt)
		text += string([]byte{byte(i % 8), 1, byte(i)})
	}
	wantWrite(t, w, 0, "x", 0, api.OK)
	wantWire(t, "1500 flushes", s, text, false)
	w.Close()
	wantWire(t, "1500 flushes, and the end", s+w.Wire(math.MaxInt), text, true)
}

func TestP7Frames(t *testing.T) {
	x, y := strings.Repeat("x", 20), strings.Repeat("y", 20)
	for _, c := range []struct {
		channels int
		written  []string // by channel
		frames   string
	}{
		{2, []string{"ab", "c"}, "\x00\x02ab\x01\x01c"},
		{1, []string{x}, "\x00\x14" + x},
		{1, []string{x + "a"}, "\x00\x14" + x + "\x00\x01a"},
		{1, []string{strings.Repeat("x", 200)}, strings.Repeat("\x00\x14"+x, 10)},
		{3, []string{"", "", "c"}, "\x02\x01c"},
		{4, []string{"", x + x + "a", "b", y + "c"}, "\x01\x14" + x + "\x02\x01b\x03\x14" + y + "\x01\x14" + x + "\x03\x01c\x01\x01a"},
		{8, []string{"0", "1", "2", "3", "4", "5", "6", "7"}, "\x00\x010\x01\x011\x02\x012\x03\x013\x04\x014\x05\x015\x06\x016\x07\x017"},
	} {
		w, late := newWriter(t, c.channels), newWriter(t, c.channels)
		for channel, s := range c.written {
			wantWrite(t, w, channel, s, len(s), api.OK)
		}
		// the order in which was written is not that of the frames
		for channel := c.channels - 1; channel >= 0; channel-- {
			for _, b := range []byte(c.written[channel]) {
				late.Write(channel, string([]byte{b}))
			}
		}
		for _, w := range []*rill.Writer{w, late} {
			wantErrno(t, "Flush", w.Flush(), api.OK)
			wantWire(t, "flushed", w.Wire(10000), c.frames, false)
		}
	}
}

// TestP7Nothing: a flush of nothing goes on to a whole byte too, and adds no
// text.
func TestP7Nothing(t *testing.T) {
	w := newWriter(t, 2)
	s, text := "", ""
	for range 5 {
		for range 3 {
			wantErrno(t, "Flush", w.Flush(), api.OK)
			more := w.Wire(1000)
			if len(more) > 24 {
				t.Errorf("a flush of nothing has %d bytes", len(more))
			}
			s += more
			wantWire(t, "a flush of nothing", s, text, false)
		}
		w.Write(1, "some text, some text")
		text += framed(1, "some text, some text")
		w.Flush()
		s += w.Wire(1000)
		wantWire(t, "a flush", s, text, false)
	}
	w.Write(1, "")
	w.Flush()
	wantWire(t, "a flush of an empty text", s+w.Wire(1000), text, false)
}

// quiet lets time go by, in which nothing may go out.
func quiet(t *testing.T, w *rill.Writer, ticks int) {
	t.Helper()
	for i := range ticks {
		w.Tick()
		if s := w.Wire(1000); s != "" {
			t.Errorf("Tick %d of %d: %x goes out", i+1, ticks, s)
		}
	}
}

// loud is a tick by which a text goes out behind all that did.
func loud(t *testing.T, w *rill.Writer, s *string, text string) {
	t.Helper()
	w.Tick()
	*s += w.Wire(1000)
	wantWire(t, "a tick", *s, text, false)
}

func TestP8Tick(t *testing.T) {
	w := newWriter(t, 3)
	s := ""
	quiet(t, w, 20) // nothing waits
	wantWrite(t, w, 1, "a", 1, api.OK)
	quiet(t, w, 2)
	loud(t, w, &s, "\x01\x01a")
	quiet(t, w, 20)
	// the first one counts, on whatever channel, and takes the others with it
	w.Write(2, "b")
	quiet(t, w, 1)
	w.Write(0, "c")
	quiet(t, w, 1)
	w.Write(2, "d")
	loud(t, w, &s, "\x01\x01a\x00\x01c\x02\x02bd")
	quiet(t, w, 20)
	// nothing is taken, so nothing begins to wait
	w.Write(0, "")
	w.Write(3, "x")
	quiet(t, w, 20)
	w.Write(0, "e")
	quiet(t, w, 1)
	w.Write(1, "")
	quiet(t, w, 1)
	loud(t, w, &s, "\x01\x01a\x00\x01c\x02\x02bd\x00\x01e")
}

func TestP8TickAndFlush(t *testing.T) {
	for ticks := range 3 {
		w := newWriter(t, 2)
		w.Write(0, "a")
		quiet(t, w, ticks)
		w.Flush()
		s := w.Wire(1000)
		wantWire(t, "flushed", s, "\x00\x01a", false)
		w.Write(1, "b") // waits from here on, not from where "a" did
		quiet(t, w, 2)
		loud(t, w, &s, "\x00\x01a\x01\x01b")
		w.Write(0, "c")
		quiet(t, w, ticks)
		w.Flush()
		s += w.Wire(1000)
		quiet(t, w, 20)
		wantWire(t, "flushed", s, "\x00\x01a\x01\x01b\x00\x01c", false)
	}
	// a flush of nothing stops nothing
	w := newWriter(t, 1)
	w.Tick()
	w.Tick()
	w.Flush()
	s := w.Wire(1000)
	w.Write(0, "a")
	quiet(t, w, 2)
	loud(t, w, &s, "\x00\x01a")
}

// TestP8TickFull: bytes for which there was no room do not wait.
func TestP8TickFull(t *testing.T) {
	w := newWriter(t, 1)
	x := strings.Repeat("x", 200)
	wantWrite(t, w, 0, x, 200, api.OK)
	quiet(t, w, 2)
	wantWrite(t, w, 0, x, 0, api.OK)
	s := ""
	loud(t, w, &s, framed(0, x))
	quiet(t, w, 20)
}

func TestP8Close(t *testing.T) {
	x := strings.Repeat("x", 20)
	for _, c := range []struct {
		flushed, waits []string // by channel
		text           string
	}{
		{[]string{"", ""}, []string{"", ""}, ""},
		{[]string{"", ""}, []string{"ab", "c"}, "\x00\x02ab\x01\x01c"},
		{[]string{"a", ""}, []string{"", ""}, "\x00\x01a"},
		{[]string{"a", x + x}, []string{x + x, x + "b"}, "\x00\x01a" + framed(1, x+x) + "\x00\x14" + x + "\x01\x14" + x + "\x00\x14" + x + "\x01\x01b"},
	} {
		w := newWriter(t, 2)
		for channel, s := range c.flushed {
			w.Write(channel, s)
		}
		w.Flush()
		for channel, s := range c.waits {
			w.Write(channel, s)
		}
		wantErrno(t, "Close", w.Close(), api.OK)
		s := w.Wire(10000)
		wantWire(t, "closed", s, c.text, true)
		wantErrno(t, "Close again", w.Close(), api.ErrClosed)
		wantErrno(t, "Flush behind Close", w.Flush(), api.ErrClosed)
		wantWrite(t, w, 0, "x", 0, api.ErrClosed)
		wantErrno(t, "Close once more", w.Close(), api.ErrClosed)
		quiet(t, w, 20)
		if more := w.Wire(1000); more != "" {
			t.Errorf("behind the end there is %x", more)
		}
	}
	w := newWriter(t, 1)
	wantErrno(t, "Close ahead of all", w.Close(), api.OK)
	wantWire(t, "closed ahead of all", w.Wire(1000), "", true)
}

// TestP8CloseLeavesWire: what is closed can be sent still, in portions.
func TestP8CloseLeavesWire(t *testing.T) {
	w := newWriter(t, 1)
	w.Write(0, "abc")
	w.Close()
	s := ""
	for range 100 {
		w.Tick()
		w.Flush()
		w.Close()
		s += w.Wire(1)
	}
	wantWire(t, "byte by byte", s, "\x00\x03abc", true)
}

func TestP9Wire(t *testing.T) {
	text := framed(0, every(77)[:100])
	full := func() *rill.Writer {
		w := newWriter(t, 1)
		w.Write(0, every(77)[:100])
		if s := w.Wire(1000); s != "" {
			t.Errorf("ahead of a flush: Wire = %x", s)
		}
		w.Flush()
		return w
	}
	all := full().Wire(math.MaxInt)
	wantWire(t, "at once", all, text, false)
	for _, portion := range []int{1, 2, 3, 7, len(all) - 1, len(all), len(all) + 1, 1 << 32} {
		w, s := full(), ""
		w.Write(0, "not flushed")
		for len(s) < len(all) {
			for _, none := range []int{0, -1, math.MinInt} {
				if more := w.Wire(none); more != "" {
					t.Fatalf("Wire(%d) = %x", none, more)
				}
			}
			more := w.Wire(portion)
			if len(more) != min(portion, len(all)-len(s)) {
				t.Fatalf("Wire(%d) behind %d of %d bytes has %d", portion, len(s), len(all), len(more))
			}
			s += more
		}
		if s != all {
			t.Errorf("in portions of %d: %x, want %x", portion, s, all)
		}
		if more := w.Wire(portion); more != "" {
			t.Errorf("behind all: Wire(%d) = %x", portion, more)
		}
	}
	// some is left when more comes
	w := full()
	s := w.Wire(10)
	w.Write(0, "more")
	w.Flush()
	s += w.Wire(20)
	w.Write(0, "and more")
	w.Close()
	s += w.Wire(30) + w.Wire(math.MaxInt)
	wantWire(t, "with flushes between", s, text+framed(0, "more")+framed(0, "and more"), true)
}

// TestP9Grows: how much a stream grows by a flush, a tick and the end, of texts
// that are easy and hard to tell shortly.
func TestP9Grows(t *testing.T) {
	r := rand.New(rand.NewSource(1))
	for round := range 400 {
		channels := 1 + r.Intn(8)
		w := newWriter(t, channels)
		s, text := "", ""
		for step := range 20 {
			few := []int{1, 2, 40, 256}[r.Intn(4)]
			for range r.Intn(2 * channels) {
				part := []byte(random(r, r.Intn(60), few))
				for i := range part {
					part[i] += byte(round % 2 * 144) // from there on codes are longer
				}
				w.Write(r.Intn(channels), string(part))
			}
			switch {
			case step == 19:
				w.Close()
			case r.Intn(2) == 0:
				w.Flush()
			default:
				w.Tick()
				w.Tick()
				w.Tick()
			}
			more := w.Wire(math.MaxInt)
			s += more
			now, _, e := rill.Inflate(s)
			if step < 19 && e != api.ErrMore || step == 19 && e != api.OK || !strings.HasPrefix(now, text) {
				t.Fatalf("step %d: Inflate gives %d, %q behind %q", step, e, now, text)
			}
			if n := len(now) - len(text); len(more) > n+n/8+24 {
				t.Errorf("frames of %d bytes made %d bytes of stream", n, len(more))
			}
			text = now
		}
	}
	// the most that one flush can have, and what is all of one kind
	for _, few := range []int{1, 256} {
		w := newWriter(t, 8)
		for channel := range 8 {
			w.Write(channel, random(r, 200, few))
		}
		w.Flush()
		s := w.Wire(math.MaxInt)
		now, _, _ := rill.Inflate(s)
		if n := len(now); n < 1500 || len(s) > n+n/8+24 || few == 1 && len(s) > 200 {
			t.Errorf("frames of %d bytes made %d bytes of stream", n, len(s))
		}
	}
}

// taken is a byte that waits, for spokenWriter.
type taken struct {
	channel int
	b       byte
	time    int
}

// spokenWriter is a writer as the document's words go: it has each byte that
// waits with the time at which it began to.
type spokenWriter struct {
	time, written int
	waits         []taken
	text          string
}

func (p *spokenWriter) write(channel int, s string) int {
	n := 0
	for n < len(s) && p.written < 1500 && p.many(channel) < 200 {
		p.waits = append(p.waits, taken{channel, s[n], p.time})
		p.written++
		n++
	}
	return n
}

func (p *spokenWriter) many(channel int) int {
	n := 0
	for _, one := range p.waits {
		if one.channel == channel {
			n++
		}
	}
	return n
}

func (p *spokenWriter) tick() {
	p.time++
	if len(p.waits) > 0 && p.time-p.waits[0].time >= 3 {
		p.flush()
	}
}

// flush sends all that waits: a channel's frame is its first bytes.
func (p *spokenWriter) flush() {
	for len(p.waits) > 0 {
		for channel := range 8 {
			frame := ""
			var left []taken
			for _, one := range p.waits {
				if one.channel == channel && len(frame) < 20 {
					frame += string([]byte{one.b})
				} else {
					left = append(left, one)
				}
			}
			if frame != "" {
				p.text += string([]byte{byte(channel), byte(len(frame))}) + frame
			}
			p.waits = left
		}
	}
}

func TestWriterAsSpoken(t *testing.T) {
	r := rand.New(rand.NewSource(2))
	for range 400 {
		channels := 1 + r.Intn(8)
		w, p := newWriter(t, channels), &spokenWriter{}
		s := ""
		for range 120 {
			switch r.Intn(10) {
			case 0, 1, 2, 3:
				channel, part := r.Intn(channels), random(r, r.Intn([]int{3, 30, 300}[r.Intn(3)]), 256)
				wantWrite(t, w, channel, part, p.write(channel, part), api.OK)
			case 4, 5, 6, 7:
				w.Tick()
				p.tick()
			case 8:
				w.Flush()
				p.flush()
			default:
				s += w.Wire(r.Intn(100))
				continue
			}
			if r.Intn(3) == 0 {
				s += w.Wire(math.MaxInt)
				wantWire(t, "as spoken", s, p.text, false)
			}
		}
		w.Close()
		p.flush()
		s += w.Wire(math.MaxInt)
		wantWire(t, "as spoken, and the end", s, p.text, true)
		if t.Failed() {
			break
		}
	}
}

// TestP1WriterAsItWas: calls that are refused change nothing.
func TestP1WriterAsItWas(t *testing.T) {
	w, quietly := newWriter(t, 2), newWriter(t, 2)
	refused := func() {
		for _, channel := range []int{-1, 2, math.MinInt, math.MaxInt} {
			wantWrite(t, w, channel, "refused", 0, api.ErrChannel)
		}
	}
	for step := range 12 {
		for _, one := range []*rill.Writer{w, quietly} {
			one.Write(step%2, every(step*2 + 1)[:step*15])
			if step%3 == 2 {
				one.Flush()
			}
			one.Tick()
		}
		refused()
	}
	w.Close()
	quietly.Close()
	refused()
	wantErrno(t, "Close", w.Close(), api.ErrClosed)
	wantErrno(t, "Flush", w.Flush(), api.ErrClosed)
	wantWrite(t, w, 0, "refused", 0, api.ErrClosed)
	if s, want := w.Wire(math.MaxInt), quietly.Wire(math.MaxInt); s != want {
		t.Errorf("Wire = %x, want %x", s, want)
	}
}

// TestP2WriterNotKept: what was handed in may be written into behind the call.
func TestP2WriterNotKept(t *testing.T) {
	w := newWriter(t, 1)
	for _, size := range []int{1, 5, 90, 200} {
		handed := []byte(strings.Repeat("x", size))
		w.Write(0, unsafe.String(&handed[0], len(handed)))
		for i := range handed {
			if handed[i] != 'x' {
				t.Fatal("Write wrote into what was handed in")
			}
			handed[i] = 'y'
		}
	}
	w.Flush()
	wantWire(t, "written into", w.Wire(1000), framed(0, strings.Repeat("x", 200)), false)
}

// TestP2Writers: writers beside one another know nothing of one another, and
// what was given stays as it is.
func TestP2Writers(t *testing.T) {
	var all []*rill.Writer
	var parts [8][]string
	var texts [8]string
	for channels := range 8 {
		all = append(all, newWriter(t, channels+1))
	}
	closed := all[3]
	for step := range 30 {
		if step == 10 {
			closed.Close()
		}
		for i, w := range all {
			s := every(2*step + 1)[i : 3*i+1]
			if n, _ := w.Write(i, s); n > 0 {
				texts[i] += framed(i, s)
			}
			w.Flush()
			parts[i] = append(parts[i], w.Wire(10000))
		}
	}
	for i, w := range all {
		wantWire(t, "beside one another", strings.Join(parts[i], ""), texts[i], w == closed)
	}
}
