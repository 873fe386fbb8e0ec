package wire

import "rookery/api"

// stream is what was found in the bytes so far.
type stream struct {
	bodies []string
	rest   []byte
	broken bool
}

// read takes chunks until the end is told.
func (s *stream) read(next <-chan string, end <-chan struct{}) {
	for {
		select {
		case chunk := <-next:
			s.take(chunk)
		case <-end:
			return
		}
	}
}

// take finds the frames that are whole with this chunk. A broken stream takes chunks too, since they are handed over until the end: it passes them over.
func (s *stream) take(chunk string) {
	if s.broken {
		return
	}
	s.rest = append(s.rest, chunk...)
	for s.cut() {
	}
}

// cut takes the first frame off the rest, and tells whether there was one.
func (s *stream) cut() bool {
	if len(s.rest) < lengthSize {
		return false
	}
	length := int(s.rest[0])<<8 | int(s.rest[1])
	if length == 0 || length > api.MaxBody {
		s.rest, s.broken = nil, true
		return false
	}
	end := lengthSize + length
	if len(s.rest) < end {
		return false
	}
	s.bodies = append(s.bodies, string(s.rest[lengthSize:end]))
	s.rest = s.rest[end:]
	return true
}

func (s *stream) found() ([]string, string, api.Errno) {
	if s.broken {
		return s.bodies, "", api.ErrFrame
	}
	return s.bodies, string(s.rest), api.OK
}
