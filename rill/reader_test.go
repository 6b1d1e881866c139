package rill_test

import (
	"math"
	"math/rand"
	"strings"
	"testing"
	"unsafe"

	"rill/api"
	"rill/rill"
	"rill/stream"
)

func newReader(t *testing.T, channels int) *rill.Reader {
	t.Helper()
	r, e := rill.NewReader(channels)
	if r == nil || e != api.OK {
		t.Fatalf("NewReader(%d): a reader: %v, %d", channels, r != nil, e)
	}
	return r
}

func wantRead(t *testing.T, r *rill.Reader, channel, most int, want string) {
	t.Helper()
	if s, e := r.Read(channel, most); s != want || e != api.OK {
		t.Errorf("Read(%d, %d) = %.60q (%d bytes), %d, want %.60q (%d bytes)", channel, most, s, len(s), e, want, len(want))
	}
}

func wantDone(t *testing.T, why string, r *rill.Reader, want bool) {
	t.Helper()
	if r.Done() != want {
		t.Errorf("%s: Done() = %v", why, !want)
	}
}

// spokenReader tells what a reader gives on each channel, and what it died of,
// when these bytes have come: all frames of the whole text are looked at anew.
func spokenReader(channels int, s string) (came [8]string, why api.Errno, done bool) {
	text, taken, e := stream.Read(s)
	for text != "" {
		size := 2
		switch {
		case int(text[0]) >= channels:
			return came, api.ErrFrame, false
		case len(text) > 1 && (text[1] == 0 || text[1] > 20):
			return came, api.ErrFrame, false
		case len(text) > 1:
			size += int(text[1])
		}
		if len(text) < size {
			break
		}
		came[text[0]] += text[2:size]
		text = text[size:]
	}
	switch {
	case e == api.ErrMore:
		return came, api.OK, false
	case e != api.OK:
		return came, e, false
	case text != "":
		return came, api.ErrFrame, false
	case taken < len(s):
		return came, api.ErrForm, false
	}
	return came, api.OK, true
}

// wantFed feeds a reader in portions, and holds it, behind each of them, against
// spokenReader. Of what came some is read now and then.
func wantFed(t *testing.T, why string, channels int, s string, portion func() int) api.Errno {
	t.Helper()
	r := newReader(t, channels)
	var read [8]string
	for came := 0; ; {
		n := min(portion(), len(s)-came)
		e := r.Feed(s[came : came+n])
		came += n
		want, dead, done := spokenReader(channels, s[:came])
		if e != dead || r.Done() != done {
			t.Fatalf("%s: Feed of %.60x, %d of %d bytes, the last portion of %d: %d, done: %v, want %d, %v", why, s, came, len(s), n, e, r.Done(), dead, done)
		}
		last := came == len(s) || e != api.OK
		for channel := range channels {
			if came%3 == channel%3 || last {
				part, _ := r.Read(channel, math.MaxInt)
				read[channel] += part
				if read[channel] != want[channel] {
					t.Fatalf("%s: of %.60x, %d of %d bytes, channel %d gave %q, want %q", why, s, came, len(s), channel, read[channel], want[channel])
				}
			}
		}
		if e != api.OK {
			wantDead(t, why, r, channels)
		}
		if last {
			return e
		}
	}
}

// wantDead holds that a dead reader of which all was read stays so.
func wantDead(t *testing.T, why string, r *rill.Reader, channels int) {
	t.Helper()
	for _, s := range []string{"", "\x03\x00", stored(1, "\x00\x01a"), "\x07"} {
		if e := r.Feed(s); e != api.ErrDead || r.Done() {
			t.Errorf("%s: Feed(%x) of a dead reader = %d, done: %v", why, s, e, r.Done())
		}
	}
	for channel := range channels {
		wantRead(t, r, channel, math.MaxInt, "")
	}
}

// wantAllPortions feeds in portions of every size, and holds what a reader of
// two channels dies of, what it gives on them, and whether it is done.
func wantAllPortions(t *testing.T, why, s string, e api.Errno, first, second string, done bool) {
	t.Helper()
	came, dead, ended := spokenReader(2, s)
	if dead != e || came[0] != first || came[1] != second || ended != done {
		t.Errorf("%s: as spoken: %q, %q, %d, %v", why, came[0], came[1], dead, ended)
	}
	step := 1 + len(s)/200 // a long one is not held behind each of its bytes
	for n := step; n <= len(s)+step; n += step {
		if got := wantFed(t, why, 2, s, func() int { return n }); got != e {
			t.Errorf("%s: in portions of %d: %d, want %d", why, n, got, e)
		}
	}
	for _, n := range []int{1, len(s) + 1} {
		r := newReader(t, 2)
		got := api.OK
		for at := 0; at < len(s) && got == api.OK; at += n {
			got = r.Feed(s[at:min(at+n, len(s))])
		}
		wantErrno(t, why+": Feed", got, e)
		wantRead(t, r, 0, math.MaxInt, first)
		wantRead(t, r, 1, math.MaxInt, second)
		wantDone(t, why, r, done)
	}
}

func TestP10NewReader(t *testing.T) {
	for _, channels := range []int{1, 2, 3, 4, 5, 6, 7, 8} {
		r := newReader(t, channels)
		for channel := range channels {
			wantErrno(t, "Feed", r.Feed(stored(0, framed(channel, "abc"))), api.OK)
			wantRead(t, r, channel, 10, "abc")
		}
		if s, e := r.Read(channels, 1); s != "" || e != api.ErrChannel {
			t.Errorf("%d channels: Read(%d) = %q, %d", channels, channels, s, e)
		}
		wantErrno(t, "Feed of a channel that there is not", r.Feed(stored(0, string([]byte{byte(channels)}))), api.ErrFrame)
	}
	for _, channels := range []int{0, -1, 9, 10, 256 + 1, 1<<32 + 1, math.MaxInt, math.MinInt, math.MinInt + 1} {
		if r, e := rill.NewReader(channels); r != nil || e != api.ErrChannel {
			t.Errorf("NewReader(%d): a reader: %v, %d", channels, r != nil, e)
		}
	}
}

func TestP10Frames(t *testing.T) {
	full := strings.Repeat("f", 20)
	wantAllPortions(t, "nothing", "", api.OK, "", "", false)
	wantAllPortions(t, "no text", "\x03\x00", api.OK, "", "", true)
	wantAllPortions(t, "the example", stored(0, "\x00\x02ab\x01\x01c"), api.OK, "ab", "c", false)
	wantAllPortions(t, "the example, and the end", stored(1, "\x00\x02ab\x01\x01c"), api.OK, "ab", "c", true)
	wantAllPortions(t, "the most of a frame", stored(1, "\x01\x14"+full), api.OK, "", full, true)
	wantAllPortions(t, "the least of a frame", stored(1, "\x01\x01f"), api.OK, "", "f", true)
	wantAllPortions(t, "bytes like those ahead of a frame", stored(1, "\x00\x04\x02\x00\x15\xff\x01\x02\x01\x00"), api.OK, "\x02\x00\x15\xff", "\x01\x00", true)
	for n, want := range []string{"", "", "", "", "ab", "ab", "ab", "ab", "abcd"} {
		wantAllPortions(t, "a frame in part", stored(0, "\x00\x02ab\x00\x02cd"[:n]), api.OK, want, "", false)
	}
	// a frame that begins in a block and ends in another one
	wantAllPortions(t, "over blocks", stored(0, "\x00")+stored(0, "")+stored(0, "\x03a")+stored(0, "b")+stored(1, "c\x01\x01d"), api.OK, "abc", "d", true)
	codes, _ := plain()
	wantAllPortions(t, "by codes", packed("010"+codes[0]+codes[4]+codes['a']+copied(3, 1)+copied(3, 6)+codes['b']+codes['b']+codes['b']+end1+"110"+end1), api.OK, "aaaa"+"abbb", "", true)
}

// TestP10ByCodes: text of blocks of kinds 1 and 2, in which a byte of the stream
// may end one thing and begin the next.
func TestP10ByCodes(t *testing.T) {
	codes, _ := plain()
	frame := codes[0] + codes[2] + codes['a'] + codes['b']
	wantAllPortions(t, "kind 1", packed("110"+frame+frame+end1), api.OK, "abab", "", true)
	wantAllPortions(t, "kind 1, told again", packed("110"+frame+copied(8, 4)+end1), api.OK, "ababab", "", true)
	two := some(258, map[int]int{0: 3, 1: 3, 'a': 3, 'b': 3, 256: 2, 257: 2})
	// codes: 256 00, 257 01, 0 100, 1 101, a 110, b 111
	block := opened("1", two, some(3, map[int]int{2: 1})) + "100 101 110" + "01 0" + "101 101 111" + "00"
	wantAllPortions(t, "kind 2", packed(block), api.OK, "aa", "b", true)
}

func TestP10WrongStream(t *testing.T) {
	ahead := stored(0, "\x00\x02ab")
	codes, _ := plain()
	frame := codes[0] + codes[1] + codes['c']
	wantAllPortions(t, "kind 3", "\x07", api.ErrForm, "", "", false)
	wantAllPortions(t, "kind 3 behind a frame", ahead+"\x07", api.ErrForm, "ab", "", false)
	wantAllPortions(t, "kind 3 with bytes behind", ahead+"\x06"+ahead, api.ErrForm, "ab", "", false)
	wantAllPortions(t, "kind 3 within a frame", stored(0, "\x00\x02ab\x01\x02c")+"\x07", api.ErrForm, "ab", "", false)
	wantAllPortions(t, "the second number", ahead+"\x00\x01\x00\xfe\xfex", api.ErrForm, "ab", "", false)
	wantAllPortions(t, "what was told in the same byte counts", ahead+packed("010"+frame+end1+"0 11"), api.ErrForm, "abc", "", false)
	wantAllPortions(t, "a symbol that may not be", ahead+packed("010"+frame+codes[286]), api.ErrForm, "abc", "", false)
	wantAllPortions(t, "a distance beyond the beginning", ahead+packed("010"+frame+copied(3, 8)), api.ErrForm, "abc", "", false)
	wantAllPortions(t, "just the beginning", ahead+packed("010"+frame+copied(3, 7)+codes['b']+end1+"0 11"), api.ErrForm, "abcab", "", false)
	wantAllPortions(t, "codes that do not fit", ahead+packed(opened("0", some(257, map[int]int{256: 2}), []int{0})+"0000"), api.ErrForm, "ab", "", false)
}

func TestP10TooLong(t *testing.T) {
	full := strings.Repeat("\x00\x14abcdefghijklmnopqrst", 227) + "\x01\x04uvwx" // of 5000 bytes
	first := strings.Repeat("abcdefghijklmnopqrst", 227)
	codes, _ := plain()
	wantAllPortions(t, "5000", stored(1, full), api.OK, first, "uvwx", true)
	wantAllPortions(t, "5001", stored(1, full+"\x00"), api.ErrLong, first, "uvwx", false)
	wantAllPortions(t, "5001 with a wrong frame", stored(1, full+"\x02"), api.ErrLong, first, "uvwx", false)
	wantAllPortions(t, "65535", stored(0, full+strings.Repeat("x", 60535)), api.ErrLong, first, "uvwx", false)
	wantAllPortions(t, "5000 within a frame", stored(0, full[:4994]+"\x01\x05uvwx")+packed("010"+codes['y']+end1), api.ErrLong, first, "", false)
	// of a length that makes it too long nothing is told
	wantAllPortions(t, "by a length", stored(0, full[:4998])+packed("010"+copied(3, 22)), api.ErrLong, first, "", false)
	// a wrong frame comes ahead of the length
	wantAllPortions(t, "a wrong frame ahead", stored(0, full[:4994]+"\x02\x01uv")+packed("010"+copied(3, 22)), api.ErrFrame, first, "", false)
}

func TestP10WrongFrame(t *testing.T) {
	for _, wrong := range []string{"\x02", "\x03", "\x08", "\xff", "\x00\x00", "\x01\x00", "\x00\x15", "\x01\x15", "\x00\x80", "\x01\xff"} {
		for _, c := range []struct{ ahead, a, b string }{
			{"", "", ""},
			{"\x00\x02ab", "ab", ""},
			{"\x01\x01c\x00\x02ab\x00\x01d", "abd", "c"},
		} {
			text := c.ahead + wrong
			wantAllPortions(t, "a wrong frame", stored(0, text), api.ErrFrame, c.a, c.b, false)
			wantAllPortions(t, "a wrong frame, and the end", stored(1, text), api.ErrFrame, c.a, c.b, false)
			wantAllPortions(t, "a wrong frame, and frames behind", stored(0, text+"\x00\x02xy")+stored(1, "\x01\x01z"), api.ErrFrame, c.a, c.b, false)
			wantAllPortions(t, "a wrong frame, and a wrong stream", stored(0, text)+"\x07", api.ErrFrame, c.a, c.b, false)
			wantAllPortions(t, "a wrong frame, and too much text", stored(0, text+strings.Repeat("x", 6000)), api.ErrFrame, c.a, c.b, false)
			wantAllPortions(t, "a wrong frame, and bytes behind the end", stored(1, text)+"x", api.ErrFrame, c.a, c.b, false)
		}
	}
	// as soon as the byte of the text is there, in the middle of a block
	codes, _ := plain()
	r := newReader(t, 2)
	s := packed("010" + codes[2] + codes['x'])
	wantErrno(t, "Feed without the channel's last bit", r.Feed(s[:1]), api.OK)
	wantErrno(t, "Feed with it", r.Feed(s[1:2]), api.ErrFrame)
	r = newReader(t, 2)
	wantErrno(t, "Feed without the length", r.Feed(stored(0, "\x01\x15x")[:6]), api.OK)
	wantErrno(t, "Feed with it", r.Feed("\x15"), api.ErrFrame)
}

func TestP10EndWithinFrame(t *testing.T) {
	for _, part := range []string{"\x00", "\x01", "\x00\x01", "\x01\x14", "\x00\x02a", "\x01\x14" + strings.Repeat("x", 19)} {
		for _, ahead := range []string{"", "\x00\x02ab"} {
			first := strings.TrimPrefix(ahead, "\x00\x02")
			wantAllPortions(t, "the end within a frame", stored(1, ahead+part), api.ErrFrame, first, "", false)
			wantAllPortions(t, "the end within a frame, and bytes", stored(1, ahead+part)+"x", api.ErrFrame, first, "", false)
			wantAllPortions(t, "the end within a frame, in a block of its own", stored(0, ahead+part)+"\x03\x00", api.ErrFrame, first, "", false)
			wantAllPortions(t, "within a frame, and no end", stored(0, ahead+part), api.OK, first, "", false)
			wantAllPortions(t, "within a frame, and no end", stored(0, ahead+part)+"\x03", api.OK, first, "", false)
		}
	}
}

func TestP10BehindEnd(t *testing.T) {
	for _, s := range []string{"x", "\x00", "\x03\x00", stored(1, "\x00\x02cd"), strings.Repeat("x", 300)} {
		wantAllPortions(t, "bytes behind the end", stored(1, "\x00\x02ab")+s, api.ErrForm, "ab", "", false)
		wantAllPortions(t, "bytes behind no text", "\x03\x00"+s, api.ErrForm, "", "", false)
	}
	r := newReader(t, 1)
	wantErrno(t, "Feed up to the end", r.Feed(stored(1, "\x00\x02ab")), api.OK)
	for range 3 {
		wantErrno(t, "Feed of nothing behind the end", r.Feed(""), api.OK)
		wantDone(t, "behind the end", r, true)
	}
	wantErrno(t, "Feed behind the end", r.Feed("\x00"), api.ErrForm)
	wantDone(t, "dead behind the end", r, false)
	wantErrno(t, "Feed of a dead reader", r.Feed(""), api.ErrDead)
	wantRead(t, r, 0, 10, "ab")
}

func TestP11Read(t *testing.T) {
	r := newReader(t, 2)
	wantRead(t, r, 0, 10, "") // ahead of all
	r.Feed(stored(0, "\x00\x05abcde\x01\x02xy\x00\x01f\x00\x03gh"))
	for _, none := range []int{0, -1, math.MinInt, math.MinInt + 1} {
		wantRead(t, r, 0, none, "")
		wantRead(t, r, 1, none, "")
	}
	wantRead(t, r, 0, 1, "a")
	wantRead(t, r, 0, 2, "bc")
	wantRead(t, r, 1, math.MaxInt, "xy")
	for _, channel := range []int{-1, 2, 8, 256, 1 << 32, math.MinInt, math.MaxInt} {
		for _, most := range []int{-1, 0, 1, math.MaxInt} {
			if s, e := r.Read(channel, most); s != "" || e != api.ErrChannel {
				t.Errorf("Read(%d, %d) = %q, %d", channel, most, s, e)
			}
		}
	}
	wantRead(t, r, 0, 9, "def") // over frames, and not of one that is not whole
	wantRead(t, r, 0, 9, "")
	wantErrno(t, "Feed", r.Feed(stored(0, "i\x01\x01z\x02")), api.ErrFrame)
	wantRead(t, r, 0, 1, "g") // of a dead reader
	wantRead(t, r, 1, 1, "z")
	wantRead(t, r, 0, 2, "hi")
	wantRead(t, r, 0, 1, "")
	wantRead(t, r, 1, 1, "")
	if s, e := r.Read(2, 1); s != "" || e != api.ErrChannel {
		t.Errorf("Read(2, 1) of a dead reader = %q, %d", s, e)
	}
}

func TestP11Done(t *testing.T) {
	for _, s := range []string{"\x03\x00", stored(1, "\x00\x02ab"), stored(0, "\x00\x02ab") + "\x03\x00", packed("010" + end1 + "110" + end1)} {
		r := newReader(t, 1)
		for i := range len(s) {
			wantDone(t, "ahead of the end", r, false)
			wantErrno(t, "Feed", r.Feed(s[i:i+1]), api.OK)
		}
		wantDone(t, "at the end, with nothing read", r, true)
		r.Read(0, 100)
		wantDone(t, "at the end, with all read", r, true)
	}
}

// TestReaderAsSpoken: streams that are made and then spoiled, in any portions.
func TestReaderAsSpoken(t *testing.T) {
	r := rand.New(rand.NewSource(3))
	met := map[api.Errno]int{}
	for range 1500 {
		channels := 1 + r.Intn(8)
		s := ""
		for range r.Intn(6) {
			text := ""
			for range r.Intn(5) {
				text += framed(r.Intn(channels), random(r, r.Intn(40), 1+r.Intn(256)))
			}
			if r.Intn(8) == 0 {
				text += random(r, 1+r.Intn(3), 30)
			}
			s += stream.Part(text)
		}
		s += stream.Write(framed(r.Intn(channels), random(r, r.Intn(40), 1+r.Intn(256))))
		switch r.Intn(5) {
		case 0:
			spoiled := []byte(s)
			spoiled[r.Intn(len(s))] ^= 1 << r.Intn(8)
			s = string(spoiled)
		case 1:
			s += random(r, 1+r.Intn(3), 256)
		case 2:
			s = s[:r.Intn(len(s)+1)]
		}
		e := wantFed(t, "made", channels, s, func() int { return len(s) })
		met[e]++
		most := 2 + r.Intn(40)
		if again := wantFed(t, "made", channels, s, func() int { return r.Intn(most) }); again != e {
			t.Fatalf("Feed of %x: %d in portions, and %d at once", s, again, e)
		}
	}
	if met[api.OK] < 200 || met[api.ErrForm] < 100 || met[api.ErrFrame] < 100 {
		t.Errorf("what was met: %v", met)
	}
}

func TestP1FeedAnything(t *testing.T) {
	for first := range 256 {
		for second := range 256 {
			wantFed(t, "two bytes", 2, string([]byte{byte(first), byte(second)}), func() int { return 1 })
		}
	}
	r := rand.New(rand.NewSource(4))
	for range 2000 {
		s := random(r, r.Intn(80), 256)
		wantFed(t, "anything", 1+r.Intn(8), s, func() int { return r.Intn(9) })
	}
}

// TestP1FeedMuch: many blocks with nothing in them, byte by byte.
func TestP1FeedMuch(t *testing.T) {
	r := newReader(t, 1)
	nothing := strings.Repeat(stored(0, ""), 20000) + packed(strings.Repeat("010"+end1, 40000))
	for i := range len(nothing) {
		if e := r.Feed(nothing[i : i+1]); e != api.OK {
			t.Fatalf("Feed of byte %d: %d", i, e)
		}
	}
	wantErrno(t, "Feed of all at once", r.Feed(nothing), api.OK)
	wantErrno(t, "Feed of the end", r.Feed(stored(1, "\x00\x01a")), api.OK)
	wantRead(t, r, 0, 10, "a")
	wantDone(t, "at the end", r, true)
}

// TestP1ReaderAsItWas: calls that are refused change nothing.
func TestP1ReaderAsItWas(t *testing.T) {
	r := newReader(t, 2)
	s := stored(0, "\x00\x03abc\x01\x02de") + stored(1, "\x00\x03fgh")
	for i := range len(s) {
		for _, channel := range []int{-1, 2, math.MinInt, math.MaxInt} {
			r.Read(channel, 5)
		}
		wantErrno(t, "Feed", r.Feed(s[i:i+1]), api.OK)
	}
	wantDone(t, "at the end", r, true)
	wantRead(t, r, 0, 10, "abcfgh")
	wantRead(t, r, 1, 10, "de")
}

// TestP2FeedNotKept: what was handed in may be written into behind the call.
func TestP2FeedNotKept(t *testing.T) {
	part := strings.Repeat("abc", 6)
	s := stream.Part(framed(0, part)+framed(1, part)) + stream.Write(framed(0, part))
	for n := 1; n <= len(s); n++ {
		r := newReader(t, 2)
		for at := 0; at < len(s); at += n {
			handed := []byte(s[at:min(at+n, len(s))])
			wantErrno(t, "Feed", r.Feed(unsafe.String(&handed[0], len(handed))), api.OK)
			if string(handed) != s[at:min(at+n, len(s))] {
				t.Fatal("Feed wrote into what was handed in")
			}
			clear(handed)
		}
		wantRead(t, r, 0, 100, part+part)
		wantRead(t, r, 1, 100, part)
		wantDone(t, "at the end", r, true)
	}
}

// TestP2Readers: readers beside one another know nothing of one another, and
// what was given stays as it is.
func TestP2Readers(t *testing.T) {
	first, second, dead := newReader(t, 1), newReader(t, 2), newReader(t, 1)
	var a, b []string
	for step := range 50 {
		one, two := every(2*step + 1)[:15], every(2*step + 1)[15:18]
		wantErrno(t, "Feed of the first", first.Feed(stream.Part(framed(0, one))), api.OK)
		wantErrno(t, "Feed of the second", second.Feed(stored(0, framed(1, two))), api.OK)
		dead.Feed(stored(0, "\x01"))
		part, _ := first.Read(0, 100)
		a = append(a, part)
		part, _ = second.Read(1, 100)
		b = append(b, part)
	}
	for step := range 50 {
		one, two := every(2*step + 1)[:15], every(2*step + 1)[15:18]
		if a[step] != one || b[step] != two {
			t.Errorf("step %d: %q and %q, want %q and %q", step, a[step], b[step], one, two)
		}
	}
	wantErrno(t, "Feed of the dead one", dead.Feed(""), api.ErrDead)
}
