package frames

import (
	"strings"
	"testing"
)

// wantSorted feeds a text in portions of n bytes: whether all of it is right,
// whether it ends within a frame, and what each channel has.
func wantSorted(t *testing.T, text string, n int, right, within bool, want ...string) {
	t.Helper()
	s := NewSorter(len(want))
	ok := true
	for at := 0; at < len(text) && ok; at += n {
		ok = s.Take(text[at:min(at+n, len(text))])
	}
	if ok != right || ok && s.Within() != within {
		t.Errorf("%q in portions of %d: %v, within a frame: %v", text, n, ok, s.Within())
	}
	for channel := range want {
		if got := s.Read(channel, len(text)); got != want[channel] {
			t.Errorf("%q in portions of %d: channel %d has %q, want %q", text, n, channel, got, want[channel])
		}
	}
}

func TestSorter(t *testing.T) {
	full := strings.Repeat("f", 20)
	for _, c := range []struct {
		text          string
		right, within bool
		first, second string
	}{
		{"", true, false, "", ""},
		{"\x00", true, true, "", ""},
		{"\x00\x02", true, true, "", ""},
		{"\x00\x02a", true, true, "", ""},
		{"\x00\x02ab", true, false, "ab", ""},
		{"\x00\x02ab\x01", true, true, "ab", ""},
		{"\x00\x02ab\x01\x01c\x00\x01d", true, false, "abd", "c"},
		{"\x01\x14" + full, true, false, "", full},
		{"\x01\x14" + full[1:], true, true, "", ""},
		{"\x00\x02\x02\x15", true, false, "\x02\x15", ""}, // no heads of frames, but bytes
		{"\x02", false, false, "", ""},
		{"\xff", false, false, "", ""},
		{"\x00\x00", false, false, "", ""},
		{"\x00\x15", false, false, "", ""},
		{"\x00\xff", false, false, "", ""},
		{"\x00\x01a\x02\x00\x01b", false, false, "a", ""},
		{"\x00\x01a\x01\x00\x00\x01b", false, false, "a", ""},
		{"\x00\x01a\x01\x15" + full + "f\x00\x01b", false, false, "a", ""},
	} {
		for n := 1; n <= len(c.text)+1; n++ {
			wantSorted(t, c.text, n, c.right, c.within, c.first, c.second)
		}
	}
	for channels := 1; channels <= 8; channels++ {
		for b := range 256 {
			s := NewSorter(channels)
			if got := s.Take(string([]byte{byte(b)})); got != (b < channels) || s.Has(b) != (b < channels) {
				t.Errorf("%d channels: a frame of channel %d: %v, %v", channels, b, got, s.Has(b))
			}
			s = NewSorter(channels)
			if got := s.Take(string([]byte{0, byte(b)})); got != (b >= 1 && b <= 20) {
				t.Errorf("a frame of %d bytes: %v", b, got)
			}
		}
	}
}

func TestSorterRead(t *testing.T) {
	s := NewSorter(2)
	s.Take("\x00\x05abcde\x01\x02xy\x00\x01f\x00\x09g")
	for _, c := range []struct {
		channel, most int
		want          string
	}{
		{0, 0, ""}, {0, -1, ""}, {0, -1 << 63, ""}, {0, 2, "ab"}, {1, 1 << 62, "xy"}, {0, 3, "cde"}, {0, 2, "f"}, {0, 9, ""}, {1, 9, ""},
	} {
		if got := s.Read(c.channel, c.most); got != c.want {
			t.Errorf("Read(%d, %d) = %q, want %q", c.channel, c.most, got, c.want)
		}
	}
	if s.Has(-1) || !s.Has(0) || !s.Has(1) || s.Has(2) || s.Has(-1<<63) || s.Has(1<<62) {
		t.Error("it does not have the channels 0 and 1 alone")
	}
}
