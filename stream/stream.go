// Package stream: ChaCha20, from block 0 on: see DOC.md, 'The parts'.
package stream

const (
	block     = 64 // bytes that one turn of the words answers
	wordBytes = 4
	wordCount = block / wordBytes
	side      = 4  // the words are a square: so many rows, so many columns
	place     = 12 // of the block's number among the words
	opening   = "expand 32-byte k"
	first     = "\x00\x00\x00\x00"
	pairs     = 10 // of a round on columns and a round on diagonals
)

type words [wordCount]uint32

// Turn is STREAM: the key has 32 bytes, the nonce 12. Turned twice, a text is
// what it was.
func Turn(key string, nonce string, text string) string {
	w := wordsOf(opening + key + first + nonce)
	turned := []byte(text)
	var mask [block]byte
	for i := 0; i < len(turned); i++ {
		if i%block == 0 {
			w[place] = uint32(i / block)
			mask = w.block()
		}
		turned[i] ^= mask[i%block]
	}
	return string(turned)
}

func wordsOf(text string) words {
	var w words
	for i := 0; i < block && i < len(text); i++ {
		w[i/wordBytes] |= uint32(text[i]) << uint(8*(i%wordBytes))
	}
	return w
}

func (w words) block() [block]byte {
	turned := w
	for i := 0; i < pairs; i++ {
		turned = turned.round(0)
		turned = turned.round(1)
	}
	var b [block]byte
	for i := 0; i < block; i++ {
		word := turned[i/wordBytes] + w[i/wordBytes]
		b[i] = byte(word >> uint(8*(i%wordBytes)))
	}
	return b
}

// round goes down the columns if lean is 0, and down the diagonals if it is
// 1: each row is then one step further on than the row above it.
func (w words) round(lean int) words {
	for a := 0; a < side; a++ {
		b := side + (a+lean)%side
		c := 2*side + (a+2*lean)%side
		d := 3*side + (a+3*lean)%side
		w[a] += w[b]
		w[d] = left(w[d]^w[a], 16)
		w[c] += w[d]
		w[b] = left(w[b]^w[c], 12)
		w[a] += w[b]
		w[d] = left(w[d]^w[a], 8)
		w[c] += w[d]
		w[b] = left(w[b]^w[c], 7)
	}
	return w
}

func left(x uint32, n uint) uint32 {
	return x<<n | x>>(32-n)
}
