package wire

import "math/bits"

// closingWord: SipHash ends with the number of bytes in the topmost byte of a word; a nonce has eight, and none is left over.
const closingWord uint64 = 8 << 56

// sip is the four words that SipHash stirs.
type sip struct {
	v0, v1, v2, v3 uint64
}

func startSip(key [16]byte) sip {
	k0 := wordOf([8]byte(key[:8]))
	k1 := wordOf([8]byte(key[8:]))
	return sip{
		v0: k0 ^ 0x736f6d6570736575,
		v1: k1 ^ 0x646f72616e646f6d,
		v2: k0 ^ 0x6c7967656e657261,
		v3: k1 ^ 0x7465646279746573,
	}
}

func (s *sip) absorb(word uint64) {
	s.v3 ^= word
	s.rounds(2)
	s.v0 ^= word
}

func (s *sip) finish() uint64 {
	s.v2 ^= 0xff
	s.rounds(4)
	return s.v0 ^ s.v1 ^ s.v2 ^ s.v3
}

func (s *sip) rounds(n int) {
	for range n {
		s.round()
	}
}

func (s *sip) round() {
	s.v0 += s.v1
	s.v1 = bits.RotateLeft64(s.v1, 13) ^ s.v0
	s.v0 = bits.RotateLeft64(s.v0, 32)
	s.v2 += s.v3
	s.v3 = bits.RotateLeft64(s.v3, 16) ^ s.v2
	s.v0 += s.v3
	s.v3 = bits.RotateLeft64(s.v3, 21) ^ s.v0
	s.v2 += s.v1
	s.v1 = bits.RotateLeft64(s.v1, 17) ^ s.v2
	s.v2 = bits.RotateLeft64(s.v2, 32)
}

// wordOf reads a word that has its lowest byte first.
func wordOf(b [8]byte) uint64 {
	var word uint64
	for i, x := range b {
		word |= uint64(x) << (8 * i)
	}
	return word
}

// bytesOf writes a word with its lowest byte first.
func bytesOf(word uint64) [8]byte {
	var b [8]byte
	for i := range b {
		b[i] = byte(word >> (8 * i))
	}
	return b
}
