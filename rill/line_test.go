package rill_test

import (
	"compress/flate"
	"io"
	"math"
	"math/rand"
	"strings"
	"testing"

	"rill/api"
	"rill/rill"
)

// wireLine is a writer and a reader, and what goes over between them.
type wireLine struct {
	*testing.T
	channels int
	w        *rill.Writer
	r        *rill.Reader
	over     string    // all bytes that went over
	taken    [8]string // by channel
	flushed  [8]string // what was taken up to the last flush
	read     [8]string
}

func newLine(t *testing.T, channels int) *wireLine {
	return &wireLine{T: t, channels: channels, w: newWriter(t, channels), r: newReader(t, channels)}
}

func (l *wireLine) write(channel int, s string) {
	l.Helper()
	n, e := l.w.Write(channel, s)
	if n < 0 || n > len(s) || e != api.OK {
		l.Fatalf("Write(%d, %q) = %d, %d", channel, s, n, e)
	}
	l.taken[channel] += s[:n]
}

func (l *wireLine) flush() {
	l.Helper()
	wantErrno(l.T, "Flush", l.w.Flush(), api.OK)
	l.flushed = l.taken
}

// carry lets at most so many bytes go over.
func (l *wireLine) carry(most int) int {
	l.Helper()
	s := l.w.Wire(most)
	if e := l.r.Feed(s); e != api.OK {
		l.Fatalf("Feed(%x) = %d", s, e)
	}
	l.over += s
	return len(s)
}

// take reads of a channel, and holds that it is a first part of what was taken.
func (l *wireLine) take(channel, most int) {
	l.Helper()
	s, e := l.r.Read(channel, most)
	l.read[channel] += s
	if e != api.OK || len(s) > max(most, 0) || !strings.HasPrefix(l.taken[channel], l.read[channel]) {
		l.Fatalf("Read(%d, %d) = %q, %d: in all %q, of %q", channel, most, s, e, l.read[channel], l.taken[channel])
	}
}

// all lets all bytes go over in portions, reads all channels, and holds that what
// was flushed is there.
func (l *wireLine) all(portion int) {
	l.Helper()
	for l.carry(portion) > 0 {
	}
	for channel := range l.channels {
		l.take(channel, math.MaxInt)
		if !strings.HasPrefix(l.read[channel], l.flushed[channel]) {
			l.Fatalf("channel %d gave %q, and %q was flushed", channel, l.read[channel], l.flushed[channel])
		}
	}
}

// end closes the line, and holds that all comes.
func (l *wireLine) end(portion int) {
	l.Helper()
	wantErrno(l.T, "Close", l.w.Close(), api.OK)
	l.flushed = l.taken
	wantDone(l.T, "ahead of the end", l.r, false)
	l.all(portion)
	wantDone(l.T, "behind the end", l.r, true)
	if l.read != l.taken {
		l.Fatalf("read is %q, taken was %q", l.read, l.taken)
	}
}

func TestP12EachPortion(t *testing.T) {
	for portion := 1; portion < 120; portion++ {
		l := newLine(t, 3)
		l.all(portion)
		l.write(0, "some bytes, some bytes, and some bytes more")
		l.write(2, every(77))
		l.all(portion)
		l.flush()
		l.all(portion)
		l.write(1, strings.Repeat("\xff", 100))
		l.write(0, "x")
		l.flush()
		l.flush()
		l.all(portion)
		l.write(2, "the last ones")
		l.end(portion)
	}
}

// TestP12Ticks: what has waited long enough comes too.
func TestP12Ticks(t *testing.T) {
	l := newLine(t, 2)
	for step := range 30 {
		l.write(step%2, string([]byte{byte(step)}))
		if step%3 == 0 {
			for range api.Delay {
				l.w.Tick()
			}
			l.flushed = l.taken
		}
		l.all(1 + step)
	}
	l.end(7)
}

func TestP12Anything(t *testing.T) {
	r := rand.New(rand.NewSource(5))
	for range 500 {
		l := newLine(t, 1+r.Intn(8))
		few := 1 + r.Intn(256)
		for range r.Intn(80) {
			channel := r.Intn(l.channels)
			switch r.Intn(8) {
			case 0, 1:
				l.write(channel, random(r, r.Intn(80), few))
			case 2:
				l.write(channel, strings.Repeat("again ", r.Intn(20)))
			case 3:
				l.flush()
			case 4:
				l.w.Tick()
			case 5:
				l.carry(r.Intn(60))
			case 6:
				l.take(channel, r.Intn(50)-1)
			default:
				if r.Intn(4) == 0 {
					l.all(1 + r.Intn(300))
				}
			}
		}
		l.end(1 + r.Intn(300))
	}
}

// TestP12Most: all that a writer takes, in the fewest and in the most frames.
func TestP12Most(t *testing.T) {
	for _, size := range []int{1, 20, 21, 200} {
		l := newLine(t, 8)
		r := rand.New(rand.NewSource(int64(size)))
		for step := 0; step*size < api.MaxWritten+100; step++ {
			l.write(step%8, random(r, size, 256))
			if size < 200 || step%8 == 7 {
				l.flush()
			}
			l.carry(3)
		}
		l.end(50)
		if n := len(strings.Join(l.read[:], "")); n != api.MaxWritten {
			t.Errorf("in pieces of %d: %d bytes came", size, n)
		}
	}
}

// TestP12Library: another program that reads such streams gives the same text.
func TestP12Library(t *testing.T) {
	r := rand.New(rand.NewSource(6))
	for range 100 {
		l := newLine(t, 4)
		for range 10 {
			l.write(r.Intn(4), random(r, r.Intn(100), 1+r.Intn(256)))
			l.flush()
		}
		l.end(100)
		text, _, _ := rill.Inflate(l.over)
		in := strings.NewReader(l.over)
		got, err := io.ReadAll(flate.NewReader(in))
		if string(got) != text || err != nil || in.Len() > 0 {
			t.Errorf("the library reads %.60x as %.60q, %v, with %d bytes left; the text is %.60q", l.over, got, err, in.Len(), text)
		}
	}
}

// TestP12Portions: what a reader gives, and what it dies of, does not hang on
// the portions, at the bytes of a line and at bytes that were spoiled on it.
func TestP12Portions(t *testing.T) {
	r := rand.New(rand.NewSource(7))
	for range 60 {
		l := newLine(t, 3)
		for range 6 {
			l.write(r.Intn(3), random(r, r.Intn(60), 1+r.Intn(256)))
			l.flush()
		}
		l.end(100)
		spoiled := []byte(l.over)
		if r.Intn(4) > 0 {
			spoiled[r.Intn(len(spoiled))] ^= 1 << r.Intn(8)
		}
		s := string(spoiled)
		want, wantText, wantEnded := fedBy(t, s, len(s))
		for n := 1; n < len(s); n++ {
			if e, text, ended := fedBy(t, s, n); e != want || text != wantText || ended != wantEnded {
				t.Fatalf("%x in portions of %d: %d, %q, %v, at once %d, %q, %v", s, n, e, text, ended, want, wantText, wantEnded)
			}
		}
	}
}

// fedBy feeds a reader of three channels in portions, up to its death, and tells
// what it died of, what it gives, and whether it is done.
func fedBy(t *testing.T, s string, portion int) (e api.Errno, came [3]string, done bool) {
	r := newReader(t, 3)
	for at := 0; at < len(s) && e == api.OK; at += portion {
		e = r.Feed(s[at:min(at+portion, len(s))])
	}
	for channel := range came {
		came[channel], _ = r.Read(channel, math.MaxInt)
	}
	return e, came, r.Done()
}
