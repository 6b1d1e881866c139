// Package frames lays the bytes of channels into frames, and takes them out
// again: see DOC.md, section 'Words'.
package frames

import (
	"slices"

	"rill/api"
)

// Cut gives all bytes that wait, of each channel, as frames: in rounds, in each
// of which a channel gives one frame at most, so that none has to wait until
// another one has given all.
func Cut(waiting [][]byte) string {
	var text []byte
	waiting = slices.Clone(waiting)
	for more := true; more; {
		more = false
		for channel, s := range waiting {
			if len(s) == 0 {
				continue
			}
			n := min(len(s), api.MaxFrame)
			text = append(text, byte(channel), byte(n))
			text = append(text, s[:n]...)
			waiting[channel] = s[n:]
			more = true
		}
	}
	return string(text)
}
