package digest

import (
	"crypto/sha256"
	"encoding/hex"
	"math/big"
	"math/rand"
	"strings"
	"testing"
)

func checkHex(t *testing.T, what string, got string, want string) {
	t.Helper()
	if hex.EncodeToString([]byte(got)) != want {
		t.Errorf("%s = %x, want %s", what, got, want)
	}
}

func randomText(r *rand.Rand, n int) string {
	b := make([]byte, n)
	r.Read(b)
	return string(b)
}

func TestSumExamples(t *testing.T) {
	checkHex(t, "SHA-256 of abc", Sum("abc"), "ba7816bf8f01cfea414140de5dae2223b00361a396177a9cb410ff61f20015ad")
	checkHex(t, "SHA-256 of nothing", Sum(""), "e3b0c44298fc1c149afbf4c8996fb92427ae41e4649b934ca495991b7852b855")
	checkHex(t, "SHA-256 of two blocks", Sum("abcdbcdecdefdefgefghfghighijhijkijkljklmklmnlmnomnopnopq"), "248d6a61d20638b8e5c026930c3e6039a33ce45964ff2167f6ecedd419db06c1")
	checkHex(t, "SHA-256 of a million a", Sum(strings.Repeat("a", 1000000)), "cdc76e5c9914fb9281a1c7e284d73e67f1809a48a497200e046d39ccc7112cd0")
}

func TestSumAsLibrary(t *testing.T) {
	r := rand.New(rand.NewSource(1))
	for n := 0; n <= 400; n++ {
		for _, text := range []string{strings.Repeat("\x00", n), strings.Repeat("\xff", n), randomText(r, n)} {
			want := sha256.Sum256([]byte(text))
			checkHex(t, "SHA-256", Sum(text), hex.EncodeToString(want[:]))
		}
	}
}

// A text too long for a test would be needed to see the upper word otherwise.
func TestFillingLength(t *testing.T) {
	for _, c := range []struct {
		n    int
		bits string
	}{
		{0, "0000000000000000"}, {1, "0000000000000008"}, {64, "0000000000000200"},
		{1<<29 - 1, "00000000fffffff8"}, {1 << 29, "0000000100000000"}, {1<<30 + 3, "0000000200000018"},
	} {
		text := filling(c.n)
		if text[0] != 128 || (c.n+len(text))%64 != 0 || len(text) < 9 || len(text) > 72 {
			t.Errorf("what follows %d bytes: %x", c.n, text)
		}
		checkHex(t, "the length", text[len(text)-8:], c.bits)
	}
}

// root is the whole part of a power's root of n.
func root(n *big.Int, power int64) *big.Int {
	low, high := big.NewInt(0), new(big.Int).Set(n)
	for low.Cmp(high) < 0 {
		middle := new(big.Int).Add(low, high)
		middle.Add(middle, big.NewInt(1)).Rsh(middle, 1)
		if new(big.Int).Exp(middle, big.NewInt(power), nil).Cmp(n) <= 0 {
			low = middle
		} else {
			high = new(big.Int).Sub(middle, big.NewInt(1))
		}
	}
	return low
}

func behindPoint(prime int64, power int64) uint32 {
	n := new(big.Int).Lsh(big.NewInt(prime), uint(32*power))
	return uint32(root(n, power).Uint64())
}

func TestTables(t *testing.T) {
	found := 0
	for n := int64(2); found < rounds; n++ {
		if !big.NewInt(n).ProbablyPrime(10) {
			continue
		}
		if found < letters && squares[found] != behindPoint(n, 2) {
			t.Errorf("square root %d: %08x", found, squares[found])
		}
		if cubes[found] != behindPoint(n, 3) {
			t.Errorf("cube root %d: %08x", found, cubes[found])
		}
		found++
	}
}
