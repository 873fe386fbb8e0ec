// Package wire: requests as bytes: see DOC.md.
package wire

import (
	"sync"

	"rookery/api"
)

// Mix is the answer to a nonce under a key (P3).
func Mix(key [16]byte, nonce [8]byte) [8]byte {
	s := startSip(key)
	s.absorb(wordOf(nonce))
	s.absorb(closingWord)
	return bytesOf(s.finish())
}

// Encode writes a request as a frame (P4).
func Encode(r api.Request) (string, api.Errno) {
	if !mayBe(r) {
		return "", api.ErrBad
	}
	body := writeBody(r)
	frame := appendNumber(nil, len(body), lengthSize)
	return string(append(frame, body...)), api.OK
}

// Decode reads a frame's body (P4).
func Decode(body string) (api.Request, api.Errno) {
	r, whole := readBody(body)
	if !whole || !mayBe(r) {
		return api.Request{}, api.ErrBad
	}
	return r, api.OK
}

// Split parts a stream into bodies (P5).
func Split(chunks []string) ([]string, string, api.Errno) {
	// The channel has no buffer: every chunk has been taken when the end is told, so the two are never ready at once.
	next := make(chan string)
	end := make(chan struct{})
	var s stream
	var reader sync.WaitGroup
	reader.Add(1)
	go func() {
		defer reader.Done()
		s.read(next, end)
	}()
	for _, chunk := range chunks {
		next <- chunk
	}
	close(end)
	reader.Wait()
	return s.found()
}
