package frames

import (
	"bytes"

	"rill/api"
)

// head is how many bytes of a frame stand ahead of those of its channel.
const head = 2

// Sorter takes frames as their bytes come, and has the bytes of each channel.
type Sorter struct {
	frame []byte         // what there is of a frame that is not whole
	came  []bytes.Buffer // by channel: what whole frames had, and was not read
}

// NewSorter makes a sorter for so many channels.
func NewSorter(channels int) Sorter {
	return Sorter{came: make([]bytes.Buffer, channels)}
}

// Take takes the next bytes of the text that frames are read of; false, if there
// is a wrong frame. Those ahead of it are taken, and behind it nothing may be.
func (s *Sorter) Take(text string) bool {
	for i := range len(text) {
		if !s.put(text[i]) {
			return false
		}
	}
	return true
}

// put takes a byte; false, if it makes the frame a wrong one.
func (s *Sorter) put(b byte) bool {
	s.frame = append(s.frame, b)
	switch len(s.frame) {
	case 1:
		return s.Has(int(b))
	case head:
		return b >= 1 && b <= api.MaxFrame
	case head + int(s.frame[1]):
		s.came[s.frame[0]].Write(s.frame[head:])
		s.frame = s.frame[:0]
	}
	return true
}

// Within tells whether a frame was begun and is not whole.
func (s *Sorter) Within() bool {
	return len(s.frame) > 0
}

// Has tells whether there is such a channel.
func (s *Sorter) Has(channel int) bool {
	return channel >= 0 && channel < len(s.came)
}

// Read gives the next bytes of a channel that there is, at most so many.
func (s *Sorter) Read(channel, most int) string {
	return string(s.came[channel].Next(max(most, 0)))
}
