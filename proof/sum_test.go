package proof_test

import (
	"bytes"
	"crypto/sha256"
	"encoding/hex"
	"io"
	"strings"
	"testing"

	"guilloche/proof"
)

func TestSumOfKnownStrings(t *testing.T) {
	for s, want := range map[string]string{
		"":    "e3b0c44298fc1c149afbf4c8996fb92427ae41e4649b934ca495991b7852b855",
		"abc": "ba7816bf8f01cfea414140de5dae2223b00361a396177a9cb410ff61f20015ad",
		"abcdbcdecdefdefgefghfghighijhijkijkljklmklmnlmnomnopnopq": "248d6a61d20638b8e5c026930c3e6039a33ce45964ff2167f6ecedd419db06c1",
		strings.Repeat("a", 1000000):                               "cdc76e5c9914fb9281a1c7e284d73e67f1809a48a497200e046d39ccc7112cd0",
	} {
		hash := proof.Sum(s)
		if got := hex.EncodeToString(hash[:]); got != want {
			t.Errorf("Sum of %d bytes = %s, not %s", len(s), got, want)
		}
	}
}

// All lengths around several ends of blocks, and all bytes.
func TestSum(t *testing.T) {
	r := newSource(1)
	for length := range 400 {
		text := make([]byte, length)
		for i := range text {
			text[i] = byte(r.Uint32())
		}
		for _, s := range []string{string(text), strings.Repeat("\x00", length), strings.Repeat("\xff", length)} {
			if proof.Sum(s) != sum(s) {
				t.Errorf("Sum(%q) = %x, not %x", s, proof.Sum(s), sum(s))
			}
		}
	}
	for _, length := range []int{1<<16 - 1, 1 << 16, 1<<20 + 55, 1<<20 + 56, 1 << 25} {
		if s := strings.Repeat("é", length/2) + strings.Repeat("x", length%2); proof.Sum(s) != sum(s) {
			t.Errorf("Sum of %d bytes is wrong", length)
		}
	}
	for b := range 256 {
		if s := string([]byte{byte(b)}); proof.Sum(s) != sum(s) {
			t.Errorf("Sum(%q) is wrong", s)
		}
	}
}

// The number of bits takes more than 32 bits.
func TestSumOfLongString(t *testing.T) {
	if testing.Short() {
		t.Skip("takes seconds")
	}
	s := strings.Repeat("0123456789abcdef", 1<<25) + "x"
	hash := sha256.New()
	io.WriteString(hash, s)
	if got := proof.Sum(s); !bytes.Equal(got[:], hash.Sum(nil)) {
		t.Error("Sum of a long string is wrong")
	}
}
