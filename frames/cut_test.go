package frames

import (
	"bytes"
	"slices"
	"strings"
	"testing"
)

// lists makes lists of bytes of texts, with room behind each.
func lists(texts ...string) [][]byte {
	all := [][]byte{}
	for _, text := range texts {
		all = append(all, append([]byte(text), "room"...)[:len(text)])
	}
	return all
}

func TestCut(t *testing.T) {
	a, b := strings.Repeat("a", 20), strings.Repeat("b", 20)
	for _, c := range []struct {
		waiting [][]byte
		want    string
	}{
		{nil, ""},
		{lists("", "", ""), ""},
		{lists("ab", "c"), "\x00\x02ab\x01\x01c"},
		{lists("", "", "c"), "\x02\x01c"},
		{lists(a[1:]), "\x00\x13" + a[1:]},
		{lists(a), "\x00\x14" + a},
		{lists(a + "x"), "\x00\x14" + a + "\x00\x01x"},
		{lists(a+a+"x", "", b+"y", "c"), "\x00\x14" + a + "\x02\x14" + b + "\x03\x01c" + "\x00\x14" + a + "\x02\x01y" + "\x00\x01x"},
		{lists("", "", "", "", "", "", "", a+a), "\x07\x14" + a + "\x07\x14" + a},
	} {
		before := lists()
		for _, s := range c.waiting {
			before = append(before, slices.Clone(s[:cap(s)]))
		}
		if got := Cut(c.waiting); got != c.want {
			t.Errorf("Cut(%q) = %q, want %q", c.waiting, got, c.want)
		}
		for i, s := range c.waiting {
			if !bytes.Equal(s[:cap(s)], before[i]) {
				t.Errorf("Cut made %q of %q", s[:cap(s)], before[i])
			}
		}
	}
}
