// Package digest: SHA-256 and what is made of it: see DOC.md, 'The parts'.
package digest

import "messenger/octets"

const (
	block      = 64 // bytes that are mixed in at once
	blockWords = 16
	wordBytes  = 4
	rounds     = 64
	letters    = 8
	endMark    = "\x80"
	lastFree   = block - 1 - 8 // of a block: behind it stand the mark and the length
)

// squares: the first 32 bits behind the point of the square roots of the
// first eight primes.
var squares = [letters]uint32{
	0x6a09e667, 0xbb67ae85, 0x3c6ef372, 0xa54ff53a,
	0x510e527f, 0x9b05688c, 0x1f83d9ab, 0x5be0cd19,
}

// cubes: those of the cube roots of the first sixty-four primes.
var cubes = [rounds]uint32{
	0x428a2f98, 0x71374491, 0xb5c0fbcf, 0xe9b5dba5,
	0x3956c25b, 0x59f111f1, 0x923f82a4, 0xab1c5ed5,
	0xd807aa98, 0x12835b01, 0x243185be, 0x550c7dc3,
	0x72be5d74, 0x80deb1fe, 0x9bdc06a7, 0xc19bf174,
	0xe49b69c1, 0xefbe4786, 0x0fc19dc6, 0x240ca1cc,
	0x2de92c6f, 0x4a7484aa, 0x5cb0a9dc, 0x76f988da,
	0x983e5152, 0xa831c66d, 0xb00327c8, 0xbf597fc7,
	0xc6e00bf3, 0xd5a79147, 0x06ca6351, 0x14292967,
	0x27b70a85, 0x2e1b2138, 0x4d2c6dfc, 0x53380d13,
	0x650a7354, 0x766a0abb, 0x81c2c92e, 0x92722c85,
	0xa2bfe8a1, 0xa81a664b, 0xc24b8b70, 0xc76c51a3,
	0xd192e819, 0xd6990624, 0xf40e3585, 0x106aa070,
	0x19a4c116, 0x1e376c08, 0x2748774c, 0x34b0bcb5,
	0x391c0cb3, 0x4ed8aa4a, 0x5b9cca4f, 0x682e6ff3,
	0x748f82ee, 0x78a5636f, 0x84c87814, 0x8cc70208,
	0x90befffa, 0xa4506ceb, 0xbef9a3f7, 0xc67178f2,
}

// state holds H0 .. H7 between blocks, and the letters a .. h within one.
type state [letters]uint32

// Sum is SHA-256.
func Sum(text string) string {
	filled := text + filling(len(text))
	s := state(squares)
	for at := 0; at+block <= len(filled); at += block {
		words := schedule(filled[at : at+block])
		s = s.mixed(words)
	}
	return s.text()
}

// filling is what follows a text of n bytes, up to the end of a block.
func filling(n int) string {
	text := endMark
	noughts := (block + lastFree - n%block) % block
	for i := 0; i < noughts; i++ {
		text += "\x00"
	}
	// eight times n, in two words: an int may have 32 bits alone
	text += octets.Text(uint32(n>>29), wordBytes)
	text += octets.Text(uint32(n)<<3, wordBytes)
	return text
}

func schedule(text string) [rounds]uint32 {
	var w [rounds]uint32
	for i := 0; i < blockWords && wordBytes*(i+1) <= len(text); i++ {
		w[i] = octets.Number(text[wordBytes*i : wordBytes*(i+1)])
	}
	for i := blockWords; i < rounds; i++ {
		near := right(w[i-15], 7) ^ right(w[i-15], 18) ^ w[i-15]>>3
		far := right(w[i-2], 17) ^ right(w[i-2], 19) ^ w[i-2]>>10
		w[i] = w[i-16] + near + w[i-7] + far
	}
	return w
}

func right(x uint32, n uint) uint32 {
	return x>>n | x<<(32-n)
}

func (s state) mixed(words [rounds]uint32) state {
	v := s
	for i := 0; i < rounds; i++ {
		v = v.round(cubes[i] + words[i])
	}
	for i := 0; i < letters; i++ {
		s[i] += v[i]
	}
	return s
}

// round: a .. h are v[0] .. v[7], t and u the document's T and U.
func (v state) round(fresh uint32) state {
	a, b, c := v[0], v[1], v[2]
	e, f, g := v[4], v[5], v[6]
	t := v[7] + (right(e, 6) ^ right(e, 11) ^ right(e, 25)) + (e&f ^ ^e&g) + fresh
	u := (right(a, 2) ^ right(a, 13) ^ right(a, 22)) + (a&b ^ a&c ^ b&c)
	for i := letters - 1; i > 0; i-- {
		v[i] = v[i-1]
	}
	v[4] += t
	v[0] = t + u
	return v
}

func (s state) text() string {
	text := ""
	for i := 0; i < letters; i++ {
		text += octets.Text(s[i], wordBytes)
	}
	return text
}
