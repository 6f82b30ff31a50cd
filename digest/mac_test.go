package digest

import (
	"crypto/hkdf"
	"crypto/hmac"
	"crypto/sha256"
	"encoding/hex"
	"math/rand"
	"strings"
	"testing"
)

func wantMac(key string, text string) string {
	h := hmac.New(sha256.New, []byte(key))
	h.Write([]byte(text))
	return hex.EncodeToString(h.Sum(nil))
}

func wantDerived(t *testing.T, salt string, text string, purpose string, n int) string {
	t.Helper()
	b, err := hkdf.Key(sha256.New, []byte(text), []byte(salt), purpose, n)
	if err != nil {
		t.Fatal(err)
	}
	return hex.EncodeToString(b)
}

func counting(from byte, n int) string {
	b := make([]byte, n)
	for i := range b {
		b[i] = from + byte(i)
	}
	return string(b)
}

func TestMacExamples(t *testing.T) {
	checkHex(t, "HMAC of Jefe", Mac("Jefe", "what do ya want for nothing?"), "5bdcc146bf60754e6a042426089575c75a003f089d2739839dec58b964ec3843")
	checkHex(t, "HMAC of 20 times 0b", Mac(strings.Repeat("\x0b", 20), "Hi There"), "b0344c61d8db38535ca8afceaf0bf12b881dc200c9833da726e9376c2e32cff7")
	checkHex(t, "HMAC of a long key", Mac(strings.Repeat("\xaa", 131), "Test Using Larger Than Block-Size Key - Hash Key First"), "60e431591ee0b67f0d8a26aacbf5b77f8e0bc6213728c5140546040f0ee37f54")
}

// Keys of 64 bytes and of one more are where a key becomes its digest.
func TestMacAsLibrary(t *testing.T) {
	r := rand.New(rand.NewSource(2))
	for n := 0; n <= 140; n++ {
		for _, length := range []int{0, 1, 32, 55, 56, 64, 65, 342} {
			key := randomText(r, n)
			text := randomText(r, length)
			checkHex(t, "HMAC", Mac(key, text), wantMac(key, text))
		}
	}
}

func TestDeriveExamples(t *testing.T) {
	derived := Derive(counting(0, 13), strings.Repeat("\x0b", 22), counting(0xf0, 10), 42)
	checkHex(t, "HKDF of 22 times 0b", derived, "3cb25f25faacd57a90434f64d0362f2a2d2d0a90cf1a5a4c5db02d56ecc4c5bf34007208d5b887185865")
	derived = Derive(counting(0x60, 80), counting(0, 80), counting(0xb0, 80), 82)
	checkHex(t, "HKDF of 80 bytes", derived, "b11e398dc80327a1c8e7f78c596a49344f012eda2d4efad8a050cc4c19afa97c59045a99cac7827271cb41c65e590e09da3275600c2f09b8367793a9aca3db71cc30c58179ec3e87c14c01d5c1f3434f1d87")
	derived = Derive("", strings.Repeat("\x0b", 22), "", 42)
	checkHex(t, "HKDF without salt and purpose", derived, "8da4e775a563c18f715f802a063c5a31b8a11f5c5ee1879ec3454e5f3c738d2d9d201395faa4b61a96c8")
}

func TestDeriveAsLibrary(t *testing.T) {
	r := rand.New(rand.NewSource(3))
	lengths := []int{255 * 32}
	for n := 0; n <= 130; n++ {
		lengths = append(lengths, n)
	}
	for _, n := range lengths {
		for _, length := range []int{0, 32, 64, 65} {
			salt := randomText(r, length)
			text := randomText(r, 32)
			purpose := randomText(r, length/3)
			checkHex(t, "HKDF", Derive(salt, text, purpose, n), wantDerived(t, salt, text, purpose, n))
		}
	}
}

func TestDeriveNothing(t *testing.T) {
	if text := Derive("salt", "text", "purpose", -1); text != "" {
		t.Errorf("HKDF of -1 bytes = %x", text)
	}
}
