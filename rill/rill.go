// Package rill: many channels over one compressed stream, that can be read up to each flush: see DOC.md.
package rill

import (
	"rill/api"
	"rill/codes"
	"rill/stream"
)

// Codes makes codes of lengths (P3).
func Codes(lengths []int) ([]string, api.Errno) {
	texts, ok := codes.Texts(lengths)
	if !ok {
		return nil, api.ErrForm
	}
	return texts, api.OK
}

// Inflate reads a compressed stream (P4).
func Inflate(s string) (string, int, api.Errno) {
	text, taken, e := stream.Read(s)
	if e == api.ErrForm || e == api.ErrLong {
		return "", 0, e
	}
	return text, taken, e
}

// Deflate compresses a text (P5).
func Deflate(t string) (string, api.Errno) {
	if len(t) > api.MaxText {
		return "", api.ErrLong
	}
	return stream.Write(t), api.OK
}
