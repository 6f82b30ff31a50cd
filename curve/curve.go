// Package curve: the points of keys and the secrets that a key and a point
// share (X25519): see DOC.md, 'The curve'.
package curve

import "messenger/api"

// factor is the curve's constant in each step of the ladder.
const factor = 121665

// base is the number 9, whose multiples are the points of keys.
const base = "\x09"

// ladder holds what a step turns on: two neighbours, each as x over z.
type ladder struct {
	x2 number
	z2 number
	x3 number
	z3 number
}

// Point is the point of a key.
func Point(key string) string {
	return Shared(key, base)
}

// Shared is the secret that a key and a point share. Both are texts of 32
// bytes; a shorter one counts as filled with noughts, a longer one as cut.
func Shared(key string, point string) string {
	scalar := bytesOf(key)
	scalar = clamp(scalar)
	x := bytesOf(point)
	answer := times(scalar, x)
	return string(answer[:])
}

func bytesOf(text string) [api.Key]byte {
	var b [api.Key]byte
	for i := 0; i < len(text) && i < api.Key; i++ {
		b[i] = text[i]
	}
	return b
}

func bitOf(b [api.Key]byte, i int) uint32 {
	return uint32(b[i/8]) >> uint(i%8) & 1
}

func clamp(key [api.Key]byte) [api.Key]byte {
	key[0] &= 0xf8
	key[api.Key-1] &= 0x7f
	key[api.Key-1] |= 0x40
	return key
}

func times(scalar [api.Key]byte, point [api.Key]byte) [api.Key]byte {
	u := fromBytes(point)
	l := ladder{x2: small(1), z2: small(0), x3: u, z3: small(1)}
	for i := 8*api.Key - 1; i >= 0; i-- {
		bit := bitOf(scalar, i)
		l = l.exchanged(bit)
		l = l.step(u)
		l = l.exchanged(bit)
	}
	inverse := l.z2.inverse()
	x := l.x2.times(inverse)
	return x.bytes()
}

// exchanged does the same work for both bits, so that the time it takes does
// not tell the key.
func (l ladder) exchanged(bit uint32) ladder {
	mask := -bit
	for i := 0; i < limbs; i++ {
		x := mask & (l.x2[i] ^ l.x3[i])
		l.x2[i] ^= x
		l.x3[i] ^= x
		z := mask & (l.z2[i] ^ l.z3[i])
		l.z2[i] ^= z
		l.z3[i] ^= z
	}
	return l
}

// step is named by the letters of the document.
func (l ladder) step(u number) ladder {
	a := l.x2.plus(l.z2)
	b := l.x2.minus(l.z2)
	c := l.x3.plus(l.z3)
	d := l.x3.minus(l.z3)
	aa := a.square()
	bb := b.square()
	e := aa.minus(bb)
	da := d.times(a)
	cb := c.times(b)
	sum := da.plus(cb)
	difference := da.minus(cb)
	difference = difference.square()
	inner := e.timesFactor()
	inner = aa.plus(inner)
	l.x3 = sum.square()
	l.z3 = u.times(difference)
	l.x2 = aa.times(bb)
	l.z2 = e.times(inner)
	return l
}
