package curve

import (
	"crypto/ecdh"
	"encoding/hex"
	"math/rand"
	"strings"
	"testing"
)

func unhex(t *testing.T, digits string) string {
	t.Helper()
	b, err := hex.DecodeString(digits)
	if err != nil {
		t.Fatal(err)
	}
	return string(b)
}

// The examples of RFC 7748, 5.2: the second point has its highest bit set.
func TestSharedExamples(t *testing.T) {
	for _, c := range []struct{ key, point, want string }{
		{
			"a546e36bf0527c9d3b16154b82465edd62144c0ac1fc5a18506a2244ba449ac4",
			"e6db6867583030db3594c1a424b15f7c726624ec26b3353b10a903a6d0ab1c4c",
			"c3da55379de9c6908e94ea4df28d084f32eccf03491c71f754b4075577a28552",
		},
		{
			"4b66e9d4d1b4673c5ad22691957d6af5c11b6421e0ea01d42ca4169e7918ba0d",
			"e5210f12786811d3f4b7959d0538ae2c31dbe7106fc03c3efc4cd549c715a493",
			"95cbde9476e8907d7aade45cb4b873f88b595a68799fa152e6f8f7647aac7957",
		},
	} {
		got := Shared(unhex(t, c.key), unhex(t, c.point))
		if got != unhex(t, c.want) {
			t.Errorf("Shared(%s, %s) = %x, want %s", c.key, c.point, got, c.want)
		}
	}
}

// RFC 7748, 5.2: the answer is the next key, the key the next point.
func TestSharedOverAndOver(t *testing.T) {
	key := "\x09" + strings.Repeat("\x00", 31)
	point := key
	for i := 1; i <= 1000; i++ {
		key, point = Shared(key, point), key
		if i == 1 && key != unhex(t, "422c8e7a6227d7bca1350b3e2bb7279f7897b87bb6854b783c60e80311ae3079") {
			t.Fatalf("once: %x", key)
		}
	}
	if key != unhex(t, "684cf59ba83309552800ef566f2f4d3c1c3887c49360e3875f2eb94d99532c51") {
		t.Errorf("a thousand times: %x", key)
	}
}

func TestSharedAsLibrary(t *testing.T) {
	r := rand.New(rand.NewSource(2))
	for i := 0; i < 200; i++ {
		var key, point [32]byte
		r.Read(key[:])
		r.Read(point[:])
		private, err := ecdh.X25519().NewPrivateKey(key[:])
		if err != nil {
			t.Fatal(err)
		}
		public, err := ecdh.X25519().NewPublicKey(point[:])
		if err != nil {
			t.Fatal(err)
		}
		want, err := private.ECDH(public)
		if err != nil {
			t.Fatal(err)
		}
		if got := Shared(string(key[:]), string(point[:])); got != string(want) {
			t.Errorf("Shared(%x, %x) = %x, want %x", key, point, got, want)
		}
		if got := Point(string(key[:])); got != string(private.PublicKey().Bytes()) {
			t.Errorf("Point(%x) = %x, want %x", key, got, private.PublicKey().Bytes())
		}
	}
}

func TestBothSidesShare(t *testing.T) {
	a, b := strings.Repeat("\x01", 32), strings.Repeat("\x02", 32)
	one, other := Shared(a, Point(b)), Shared(b, Point(a))
	if one != other || len(one) != 32 {
		t.Errorf("the two sides have %x and %x", one, other)
	}
}

// The points that every clamped key takes to 0, p and above among them, with
// and without the highest bit.
func TestSharedNoughts(t *testing.T) {
	for _, digits := range []string{
		strings.Repeat("00", 32),
		"01" + strings.Repeat("00", 31),
		"ec" + strings.Repeat("ff", 30) + "7f",
		"ed" + strings.Repeat("ff", 30) + "7f",
		"ee" + strings.Repeat("ff", 30) + "7f",
		"e0eb7a7c3b41b8ae1656e3faf19fc46ada098deb9c32b1fd866205165f49b800",
		"5f9c95bca3508c24b1d0b1559c83ef5b04445cc4581c8e86d8224eddd09f1157",
	} {
		point := unhex(t, digits)
		high := point[:31] + string([]byte{point[31] | 0x80})
		for _, key := range []string{strings.Repeat("\x01", 32), strings.Repeat("\xff", 32)} {
			if Shared(key, point) != strings.Repeat("\x00", 32) || Shared(key, high) != strings.Repeat("\x00", 32) {
				t.Errorf("Shared(%x, %s) is not 32 noughts", key, digits)
			}
		}
	}
}

// Points at and above p count as the numbers that they are modulo p.
func TestSharedAboveP(t *testing.T) {
	key := strings.Repeat("\x03", 32)
	for v := 0; v < 19; v++ {
		low := string([]byte{byte(v)}) + strings.Repeat("\x00", 31)
		high := string([]byte{byte(0xed + v)}) + strings.Repeat("\xff", 30) + "\x7f"
		if a, b := Shared(key, low), Shared(key, high); a != b {
			t.Errorf("point %d: %x, as p and %d: %x", v, a, v, b)
		}
	}
}

func TestOtherLengths(t *testing.T) {
	key := strings.Repeat("\x05", 32)
	noughts := strings.Repeat("\x00", 32)
	if Point("") != Point(noughts) || Point(key+"more") != Point(key) {
		t.Errorf("a key of another length is not filled or cut")
	}
	if Shared(key, "") != noughts || Shared(key, Point(key)+"more") != Shared(key, Point(key)) {
		t.Errorf("a point of another length is not filled or cut")
	}
}
