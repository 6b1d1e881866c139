// Package rill: many channels over one compressed stream, that can be read up to each flush: see DOC.md.
package rill

import (
	"rill/api"
	"rill/codes"
	"rill/stream"
)

// Codes makes codes of lengths (P3).
func Codes(lengths []int) ([]string, api.Errno) {
	texts, ok := codes.Texts(lengths)
	if !ok {
		return nil, api.ErrForm
	}
	return texts, api.OK
}

// Inflate reads a compressed stream (P4).
func Inflate(s string) (string, int, api.Errno) {
	text, taken, e := stream.Read(s)
	if e == api.ErrForm || e == api.ErrLong {
		return "", 0, e
	}
	return text, taken, e
}

// Deflate compresses a text (P5).
func Deflate(t string) (string, api.Errno) {
	if len(t) > api.MaxText {
		return "", api.ErrLong
	}
	return stream.Write(t), api.OK
}

// Writer takes bytes on channels.
type Writer struct{}

// NewWriter makes a writer (P6).
func NewWriter(channels int) (*Writer, api.Errno) { return nil, api.OK }

// Write takes bytes (P6).
func (w *Writer) Write(channel int, s string) (int, api.Errno) { return 0, api.OK }

// Flush sends what waits (P7).
func (w *Writer) Flush() api.Errno { return api.OK }

// Tick lets time go by (P8).
func (w *Writer) Tick() {}

// Close ends the stream (P8).
func (w *Writer) Close() api.Errno { return api.OK }

// Wire gives the next bytes of the stream (P9).
func (w *Writer) Wire(most int) string { return "" }

// Reader gives bytes of channels.
type Reader struct{}

// NewReader makes a reader (P10).
func NewReader(channels int) (*Reader, api.Errno) { return nil, api.OK }

// Feed takes bytes of the stream (P10).
func (r *Reader) Feed(s string) api.Errno { return api.OK }

// Read gives bytes of a channel (P11).
func (r *Reader) Read(channel int, most int) (string, api.Errno) { return "", api.OK }

// Done tells whether the stream has ended (P11).
func (r *Reader) Done() bool { return false }
