package stream_test

import (
	"crypto/sha256"
	"encoding/hex"
	"strings"
	"testing"

	"messenger/stream"
)

func counting(from int, step int, n int) string {
	b := make([]byte, n)
	for i := range b {
		b[i] = byte(from + i*step)
	}
	return string(b)
}

func noughts(n int) string { return strings.Repeat("\x00", n) }

func checkHex(t *testing.T, what string, got string, want string) {
	t.Helper()
	if hex.EncodeToString([]byte(got)) != want {
		t.Errorf("STREAM, %s: %x, want %s", what, got, want)
	}
}

func TestNoughts(t *testing.T) {
	checkHex(t, "noughts", stream.Turn(noughts(32), noughts(12), noughts(8)), "76b8e0ada0f13d90")
	checkHex(t, "noughts", stream.Turn(noughts(32), noughts(12), noughts(130)), "76b8e0ada0f13d90405d6ae55386bd28bdd219b8a08ded1aa836efcc8b770dc7da41597c5157488d7724e03fb8d84a376a43b8f41518a11cc387b669b2ee6586"+
		"9f07e7be5551387a98ba977c732d080dcb0f29a048e3656912c6533e32ee7aed29b721769ce64e43d57133b074d839d531ed1f28510afb45ace10a1f4b794d6f"+
		"2d09")
}

// RFC 8439, 2.4.2; its text begins at block 1.
func TestSunscreen(t *testing.T) {
	text := "Ladies and Gentlemen of the class of '99: If I could offer you only one tip for the future, sunscreen would be it."
	nonce := noughts(7) + "\x4a" + noughts(4)
	turned := stream.Turn(counting(0, 1, 32), nonce, noughts(64)+text)
	checkHex(t, "sunscreen", turned[64:], "6e2e359a2568f98041ba0728dd0d6981e97e7aec1d4360c20a27afccfd9fae0bf91b65c5524733ab8f593dabcd62b3571639d624e65152ab8f530c359f0861d807ca0dbf500d6a6156a38e088a22b65e52bc514d16ccf806818ce91ab77937365af90bbf74a35be6b40b8eedf2785e42874d")
}

func TestLengths(t *testing.T) {
	key := counting(100, 1, 32)
	nonce := counting(200, 1, 12)
	for _, c := range []struct {
		n    int
		last string
	}{
		{1, "83"}, {63, "3b1a0ee5acdd6c2c"}, {64, "1a0ee5acdd6c2cb0"}, {65, "0ee5acdd6c2cb002"},
		{127, "b911f846f8fa295b"}, {128, "11f846f8fa295b51"}, {129, "f846f8fa295b5105"}, {200, "cb8925c5e05a3e6d"},
	} {
		turned := stream.Turn(key, nonce, counting(0, 7, c.n))
		if len(turned) != c.n {
			t.Fatalf("STREAM of %d bytes: %d bytes", c.n, len(turned))
		}
		checkHex(t, "the last bytes", turned[c.n-len(c.last)/2:], c.last)
	}
	if turned := stream.Turn(key, nonce, ""); turned != "" {
		t.Errorf("STREAM of nothing: %x", turned)
	}
	// more than 256 blocks
	all := sha256.Sum256([]byte(stream.Turn(key, nonce, counting(0, 7, 20000))))
	checkHex(t, "20000 bytes, their SHA-256", string(all[:]), "5ee96c170cb444475872c926f7f71e92997f9f18330975e2b3e29db87f3e2ad2")
}

func TestTwice(t *testing.T) {
	key := counting(3, 5, 32)
	nonce := counting(9, 11, 12)
	for n := 0; n <= 300; n++ {
		text := counting(n, 13, n)
		turned := stream.Turn(key, nonce, text)
		if back := stream.Turn(key, nonce, turned); back != text {
			t.Errorf("STREAM twice of %d bytes: %x", n, back)
		}
	}
}
