package wire_test

import (
	"encoding/hex"
	"testing"

	"rookery/wire"
)

func keyOf(t *testing.T, s string) [16]byte {
	t.Helper()
	b, err := hex.DecodeString(s)
	if err != nil || len(b) != 16 {
		t.Fatalf("no key: %q", s)
	}
	return [16]byte(b)
}

func eightOf(t *testing.T, s string) [8]byte {
	t.Helper()
	b, err := hex.DecodeString(s)
	if err != nil || len(b) != 8 {
		t.Fatalf("no eight bytes: %q", s)
	}
	return [8]byte(b)
}

// The first answer is the document's; the others were made by another program's SipHash-2-4.
func TestMixKnownAnswers(t *testing.T) {
	for _, c := range []struct{ key, nonce, want string }{
		{"000102030405060708090a0b0c0d0e0f", "0001020304050607", "6224939a79f5f593"},
		{"00000000000000000000000000000000", "0000000000000000", "6725fe6fbbe849e8"},
		{"ffffffffffffffffffffffffffffffff", "ffffffffffffffff", "d0f9771749773ef1"},
		{"80000000000000000000000000000000", "0000000000000000", "ed7c085eabfc6ead"},
		{"00000000000000008000000000000000", "0000000000000000", "865de4a478965e09"},
		{"00000000000000000000000000000001", "0000000000000000", "2c78669fe45feaa3"},
		{"00000000000000000000000000000000", "8000000000000000", "d8f90559873214d5"},
		{"00000000000000000000000000000000", "0000000000000001", "ba47ee4144dc770a"},
		{"0f0e0d0c0b0a09080706050403020100", "0706050403020100", "1cc483f915fb14b1"},
		{"6b6579206f6620726f6f6b657279212e", "6e6f6e6365202331", "d3abd79352a8303f"},
		{"deadbeef0123456789abcdeffedcba98", "fedcba9876543210", "49a38d367f641f12"},
	} {
		if got := wire.Mix(keyOf(t, c.key), eightOf(t, c.nonce)); got != eightOf(t, c.want) {
			t.Errorf("P3: Mix(%s, %s) = %x, want %s", c.key, c.nonce, got, c.want)
		}
	}
}

// Every bit of a key and of a nonce matters, and the same two always give the same answer.
func TestMixHangsOnEveryBit(t *testing.T) {
	key := keyOf(t, "000102030405060708090a0b0c0d0e0f")
	nonce := eightOf(t, "0001020304050607")
	seen := map[[8]byte]bool{wire.Mix(key, nonce): true}
	for bit := range 128 {
		other := key
		other[bit/8] ^= 1 << (bit % 8)
		seen[wire.Mix(other, nonce)] = true
	}
	for bit := range 64 {
		other := nonce
		other[bit/8] ^= 1 << (bit % 8)
		seen[wire.Mix(key, other)] = true
	}
	if len(seen) != 1+128+64 {
		t.Errorf("P3: of %d answers %d are different", 1+128+64, len(seen))
	}
	if wire.Mix(key, nonce) != wire.Mix(key, nonce) {
		t.Error("P3: Mix of the same key and nonce gives two answers")
	}
}
