package session_test

import (
	"crypto/ecdh"
	"encoding/hex"
	"math/rand"
	"strings"
	"testing"

	"messenger/api"
	"messenger/session"
)

func same(b byte) string { return strings.Repeat(string([]byte{b}), api.Key) }

func wantPoint(t *testing.T, key string) string {
	t.Helper()
	private, err := ecdh.X25519().NewPrivateKey([]byte(key))
	if err != nil {
		t.Fatal(err)
	}
	return string(private.PublicKey().Bytes())
}

func checkPoint(t *testing.T, key string, want string) {
	t.Helper()
	point, e := session.Public(key)
	if point != want || e != api.OK {
		t.Errorf("P3: Public(%x) = %x, %d, want %x", key, point, e, want)
	}
}

func TestPublicExamples(t *testing.T) {
	for _, c := range []struct{ key, point string }{
		{same(1), "a4e09292b651c278b9772c569f5fa9bb13d906b46ab68c9df9dc2b4409f8a209"},
		{same(2), "ce8d3ad1ccb633ec7b70c17814a5c76ecd029685050d344745ba05870e587d59"},
		{same(255), "847c0d2c375234f365e660955187a3735a0f7613d1609d3a6a4d8c53aeaa5a22"},
		{"\x09" + same(0)[:31], "422c8e7a6227d7bca1350b3e2bb7279f7897b87bb6854b783c60e80311ae3079"},
	} {
		want, err := hex.DecodeString(c.point)
		if err != nil {
			t.Fatal(err)
		}
		checkPoint(t, c.key, string(want))
	}
}

func TestPublicAsLibrary(t *testing.T) {
	for b := 0; b < 256; b++ {
		checkPoint(t, same(byte(b)), wantPoint(t, same(byte(b))))
	}
	r := rand.New(rand.NewSource(3))
	for i := 0; i < 200; i++ {
		var key [api.Key]byte
		r.Read(key[:])
		checkPoint(t, string(key[:]), wantPoint(t, string(key[:])))
	}
}

// The three lowest bits of a key and its two highest do not count; every
// other bit does.
func TestPublicBits(t *testing.T) {
	for _, key := range []string{same(0), same(0x5a), same(0xff)} {
		point, _ := session.Public(key)
		for bit := 0; bit < 8*api.Key; bit++ {
			turned := []byte(key)
			turned[bit/8] ^= 1 << (bit % 8)
			other, e := session.Public(string(turned))
			alike := bit < 3 || bit >= 8*api.Key-2
			if e != api.OK || len(other) != api.Key || (other == point) != alike {
				t.Errorf("P3: key %x, bit %d turned: %x, %d beside %x", key, bit, other, e, point)
			}
		}
	}
}

func TestPublicClampedAlike(t *testing.T) {
	want, _ := session.Public(same(0x40))
	for low := 0; low < 8; low++ {
		for high := 0; high < 4; high++ {
			key := []byte(same(0x40))
			key[0] |= byte(low)
			key[31] = byte(high << 6)
			checkPoint(t, string(key), want)
		}
	}
}

func TestPublicWrongLengths(t *testing.T) {
	keys := []string{"", same(1)[:31], same(1) + "\x01", strings.Repeat("k", 1<<20)}
	for n := 0; n <= 130; n++ {
		if n != api.Key {
			keys = append(keys, strings.Repeat("\x00", n), strings.Repeat("\xff", n))
		}
	}
	// counted in bytes, not in letters
	keys = append(keys, strings.Repeat("é", api.Key))
	for _, key := range keys {
		point, e := session.Public(key)
		if point != "" || e != api.ErrArg {
			t.Errorf("P3: Public of %d bytes = %x, %d, want ErrArg", len(key), point, e)
		}
	}
	checkPoint(t, strings.Repeat("é", api.Key/2), wantPoint(t, strings.Repeat("é", api.Key/2)))
}

func TestPublicHangsOnKeyAlone(t *testing.T) {
	first, _ := session.Public(same(7))
	session.Public(same(8))
	session.Public("wrong")
	again, e := session.Public(same(7))
	if again != first || e != api.OK {
		t.Errorf("P2: Public(%x) = %x, then %x, %d", same(7), first, again, e)
	}
}
