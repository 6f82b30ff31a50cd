package curve

import (
	"math/big"
	"math/rand"
	"testing"
)

var prime = new(big.Int).Sub(new(big.Int).Lsh(big.NewInt(1), 255), big.NewInt(19))

func value(n number) *big.Int {
	v := new(big.Int)
	for i := limbs - 1; i >= 0; i-- {
		v.Lsh(v, limbBits)
		v.Add(v, big.NewInt(int64(n[i])))
	}
	return v
}

func ofValue(v *big.Int) number {
	var low [32]byte
	v.FillBytes(low[:])
	for i := 0; i < 16; i++ {
		low[i], low[31-i] = low[31-i], low[i]
	}
	return fromBytes(low)
}

func isTidy(n number) bool {
	if n[0] > limbMask+wrap || n[last] > lastMask || value(n).BitLen() > 255 {
		return false
	}
	for i := 1; i < last; i++ {
		if n[i] > limbMask {
			return false
		}
	}
	return true
}

// samples: the numbers around 0, p and 2^255, tidy ones whose first limb is
// above its 13 bits, and others.
func samples() []number {
	var list []number
	for d := int64(0); d < 25; d++ {
		list = append(list, ofValue(big.NewInt(d)))
		top := new(big.Int).Lsh(big.NewInt(1), 255)
		list = append(list, ofValue(top.Sub(top, big.NewInt(d+1))))
	}
	high := ofValue(new(big.Int).Sub(prime, big.NewInt(1)))
	high[0] = limbMask + wrap
	high[1]--
	list = append(list, high, number{limbMask + wrap})
	r := rand.New(rand.NewSource(1))
	for i := 0; i < 40; i++ {
		list = append(list, ofValue(new(big.Int).Rand(r, prime)))
	}
	return list
}

func check(t *testing.T, name string, got number, want *big.Int) {
	t.Helper()
	if !isTidy(got) {
		t.Errorf("%s: %v is not tidy", name, got)
	}
	want = new(big.Int).Mod(want, prime)
	if new(big.Int).Mod(value(got), prime).Cmp(want) != 0 {
		t.Errorf("%s: %v, want %x", name, got, want)
	}
	if least := value(got.least()); least.Cmp(want) != 0 {
		t.Errorf("%s: least is %x, want %x", name, least, want)
	}
}

func TestSamplesAreTidy(t *testing.T) {
	for _, n := range samples() {
		check(t, "sample", n, value(n))
	}
}

func TestTwoNumbers(t *testing.T) {
	list := samples()
	for _, n := range list {
		for _, m := range list {
			a, b := value(n), value(m)
			check(t, "plus", n.plus(m), new(big.Int).Add(a, b))
			check(t, "minus", n.minus(m), new(big.Int).Sub(a, b))
			check(t, "times", n.times(m), new(big.Int).Mul(a, b))
		}
	}
}

func TestOneNumber(t *testing.T) {
	for _, n := range samples() {
		v := value(n)
		check(t, "square", n.square(), new(big.Int).Mul(v, v))
		check(t, "factor", n.timesFactor(), new(big.Int).Mul(v, big.NewInt(121665)))
		power := new(big.Int).Sub(prime, big.NewInt(2))
		check(t, "inverse", n.inverse(), new(big.Int).Exp(v, power, prime))
	}
}

// The largest limbs that tidy numbers have, all at once, must not overflow.
func TestLargestLimbs(t *testing.T) {
	var n number
	for i := range n {
		n[i] = limbMask
	}
	n[0] = limbMask + wrap
	n[last] = lastMask
	v := value(n)
	check(t, "plus", n.plus(n), new(big.Int).Add(v, v))
	check(t, "minus", number{}.minus(n), new(big.Int).Neg(v))
	check(t, "times", n.times(n), new(big.Int).Mul(v, v))
	check(t, "factor", n.timesFactor(), new(big.Int).Mul(v, big.NewInt(121665)))
}

func TestBytesBackAndForth(t *testing.T) {
	for _, n := range samples() {
		back := fromBytes(n.bytes())
		want := new(big.Int).Mod(value(n), prime)
		if value(back).Cmp(want) != 0 {
			t.Errorf("%v as bytes and back: %x, want %x", n, value(back), want)
		}
	}
}
