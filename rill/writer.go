package rill

import (
	"bytes"

	"rill/api"
	"rill/frames"
	"rill/stream"
)

// Writer takes bytes on channels.
type Writer struct {
	waiting [][]byte // by channel: what was taken, and was not sent
	taken   int      // bytes in all
	waited  int      // ticks, since the first of those that wait was taken
	wire    bytes.Buffer
	closed  bool
}

// NewWriter makes a writer (P6).
func NewWriter(channels int) (*Writer, api.Errno) {
	if !allowed(channels) {
		return nil, api.ErrChannel
	}
	return &Writer{waiting: make([][]byte, channels)}, api.OK
}

// allowed tells whether there may be so many channels.
func allowed(channels int) bool {
	return channels >= 1 && channels <= api.MaxChannels
}

// Write takes bytes (P6).
func (w *Writer) Write(channel int, s string) (int, api.Errno) {
	if channel < 0 || channel >= len(w.waiting) {
		return 0, api.ErrChannel
	}
	if w.closed {
		return 0, api.ErrClosed
	}
	room := min(api.MaxWaiting-len(w.waiting[channel]), api.MaxWritten-w.taken)
	n := min(len(s), room)
	w.waiting[channel] = append(w.waiting[channel], s[:n]...)
	w.taken += n
	return n, api.OK
}

// Flush sends what waits (P7).
func (w *Writer) Flush() api.Errno {
	if w.closed {
		return api.ErrClosed
	}
	w.wire.WriteString(stream.Part(w.cut()))
	return api.OK
}

// Tick lets time go by (P8).
func (w *Writer) Tick() {
	if !w.waits() {
		return
	}
	w.waited++
	if w.waited == api.Delay {
		w.Flush()
	}
}

// Close ends the stream (P8).
func (w *Writer) Close() api.Errno {
	if w.closed {
		return api.ErrClosed
	}
	w.wire.WriteString(stream.Write(w.cut()))
	w.closed = true
	return api.OK
}

// Wire gives the next bytes of the stream (P9).
func (w *Writer) Wire(most int) string {
	return string(w.wire.Next(max(most, 0)))
}

// waits tells whether bytes wait, on whatever channel.
func (w *Writer) waits() bool {
	for _, s := range w.waiting {
		if len(s) > 0 {
			return true
		}
	}
	return false
}

// cut gives all that waits as frames; from then on nothing waits.
func (w *Writer) cut() string {
	text := frames.Cut(w.waiting)
	clear(w.waiting)
	w.waited = 0
	return text
}
