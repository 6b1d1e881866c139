package rill

import (
	"rill/api"
	"rill/frames"
	"rill/stream"
)

// Reader gives bytes of channels.
type Reader struct {
	stream stream.Reader
	frames frames.Sorter
	dead   bool
	done   bool
}

// NewReader makes a reader (P10).
func NewReader(channels int) (*Reader, api.Errno) {
	if !allowed(channels) {
		return nil, api.ErrChannel
	}
	return &Reader{frames: frames.NewSorter(channels)}, api.OK
}

// Feed takes bytes of the stream (P10).
func (r *Reader) Feed(s string) api.Errno {
	if r.dead {
		return api.ErrDead
	}
	why := r.take(s)
	if why != api.OK {
		r.dead, r.done = true, false
		r.stream = stream.Reader{}
	}
	return why
}

// take goes on through the stream, and tells what is wrong. The text was told
// ahead of what stopped the stream, so a wrong frame comes first.
func (r *Reader) take(s string) api.Errno {
	text, left, why := r.stream.Feed(s)
	switch {
	case !r.frames.Take(text):
		return api.ErrFrame
	case why == api.ErrMore:
		return api.OK
	case why != api.OK:
		return why
	case r.frames.Within():
		return api.ErrFrame
	case left > 0:
		return api.ErrForm
	}
	r.done = true
	return api.OK
}

// Read gives bytes of a channel (P11).
func (r *Reader) Read(channel int, most int) (string, api.Errno) {
	if !r.frames.Has(channel) {
		return "", api.ErrChannel
	}
	return r.frames.Read(channel, most), api.OK
}

// Done tells whether the stream has ended (P11).
func (r *Reader) Done() bool { return r.done }
