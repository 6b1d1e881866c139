package stream

import (
	"math/rand"
	"strings"
	"testing"
	"unsafe"

	"rill/api"
)

// wantFed feeds a stream in portions, and holds what is told behind each of them
// against what the document's words make of all bytes that came.
func wantFed(t *testing.T, s string, portion func() int) api.Errno {
	t.Helper()
	var r Reader
	all, came := "", 0
	for {
		n := min(portion(), len(s)-came)
		came += n
		text, left, e := r.Feed(s[came-n : came])
		all += text
		wantText, taken, want := spokenRead(s[:came])
		if want == api.OK {
			taken = came - taken // those that are left
		}
		if all != wantText || left != taken || e != want {
			t.Fatalf("%x, %d bytes, the last portion of %d: %q, %d left, %d, want %q, %d, %d", s, came, n, all, left, e, wantText, taken, want)
		}
		if e != api.ErrMore || came == len(s) {
			return e
		}
	}
}

func TestFeedMade(t *testing.T) {
	met := map[api.Errno]int{}
	for seed := range int64(300) {
		m := &maker{Rand: rand.New(rand.NewSource(seed)), slips: seed%3 != 0}
		for range m.Intn(4) {
			m.block(0)
		}
		m.block(1)
		s := press(m.letters.String()) + "rest"[:m.Intn(5)]
		met[wantFed(t, s, func() int { return len(s) })]++
		wantFed(t, s, func() int { return 1 })
		wantFed(t, s, func() int { return m.Intn(5) })
		wantFed(t, s, func() int { return m.Intn(60) })
	}
	if met[api.OK] < 40 || met[api.ErrForm] < 40 {
		t.Errorf("what was met: %v", met)
	}
}

func TestFeedAnything(t *testing.T) {
	r := rand.New(rand.NewSource(1))
	for range 3000 {
		s := anything(r, r.Intn(30), 256)
		wantFed(t, s, func() int { return 1 })
		wantFed(t, s, func() int { return r.Intn(4) })
	}
}

func TestFeedTooLong(t *testing.T) {
	full := strings.Repeat("x", api.MaxText)
	for _, s := range []string{
		"\x01\x89\x13\x76\xec" + full + "y",
		"\x00\x88\x13\x77\xec" + full + "\x4b\x04\x00",
		"\x00\x86\x13\x79\xec" + full[2:] + press("110"+"0000001"+"00000"+"0000000"),
	} {
		for _, n := range []int{len(s), 1000, 701} {
			if e := wantFed(t, s, func() int { return n }); e != api.ErrLong {
				t.Errorf("%.20x, in portions of %d: %d", s, n, e)
			}
		}
	}
}

// TestFeedBehindEnd: what comes behind the end is left, and nothing is told.
func TestFeedBehindEnd(t *testing.T) {
	var r Reader
	for i, c := range []struct {
		s, text string
		left    int
		e       api.Errno
	}{
		{"", "", 0, api.ErrMore},
		{"\x4b\x04", "a", 0, api.ErrMore},
		{"\x00\x07\x07", "", 2, api.OK},
		{"", "", 0, api.OK},
		{"\x07", "", 1, api.OK},
		{"\x4b\x04\x00", "", 3, api.OK},
	} {
		if text, left, e := r.Feed(c.s); text != c.text || left != c.left || e != c.e {
			t.Errorf("%d: Feed(%x) = %q, %d, %d, want %q, %d, %d", i, c.s, text, left, e, c.text, c.left, c.e)
		}
	}
}

// TestFeedKeepsLittle: bytes that are done with are not kept.
func TestFeedKeepsLittle(t *testing.T) {
	var r Reader
	for _, s := range []string{strings.Repeat("\x00\x00\x00\xff\xff", 20000), press(strings.Repeat("0100000000", 8000))} {
		if _, _, e := r.Feed(s); e != api.ErrMore || len(r.from) > 1 {
			t.Errorf("Feed of %d bytes: %d, and %d bytes are kept", len(s), e, len(r.from))
		}
		for i := range len(s) {
			if _, _, e := r.Feed(s[i : i+1]); e != api.ErrMore || len(r.from) > 5 {
				t.Fatalf("Feed byte by byte: %d, and %d bytes are kept", e, len(r.from))
			}
		}
	}
	r.Feed(Write("some text"))
	if r.text != nil || r.from != "" {
		t.Errorf("behind the end %q and %q are kept", r.text, r.from)
	}
}

// TestFeedNotKept: what was handed in may be written into behind the call.
func TestFeedNotKept(t *testing.T) {
	s := Part("abcabcabcabcxyz") + Write("abcabcxyzuvw")
	for n := 1; n <= len(s); n++ {
		var r Reader
		all := ""
		for at := 0; at < len(s); at += n {
			handed := []byte(s[at:min(at+n, len(s))])
			text, _, _ := r.Feed(unsafe.String(&handed[0], len(handed)))
			clear(handed)
			all += text
		}
		if all != "abcabcabcabcxyzabcabcxyzuvw" {
			t.Errorf("in portions of %d: %q", n, all)
		}
	}
}
