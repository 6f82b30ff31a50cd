package curve

import "messenger/api"

// A number has twenty limbs, the lowest first: nineteen of 13 bits and a last
// one of 8, so that they end at bit 255, where p = 2^255 - 19 wraps around.
// With 13 bits, twenty products of two limbs still fit into 32 bits.
const (
	limbs    = 20
	last     = limbs - 1
	limbBits = 13
	limbMask = 1<<limbBits - 1
	lastBits = 8
	lastMask = 1<<lastBits - 1
	allBits  = last*limbBits + lastBits
)

// wrap is 2^255 modulo p; wideWrap is 2^260, the weight of a limb of full
// width behind the twenty.
const (
	wrap     = 19
	wideWrap = wrap << (limbBits - lastBits)
)

// number is a number modulo p, not always the least one. Every function here
// takes and answers tidy numbers: below 2^255, limb 0 at most limbMask + wrap,
// the last limb at most lastMask, the others at most limbMask.
type number [limbs]uint32

func small(v uint32) number {
	var n number
	n[0] = v & limbMask
	return n
}

// fromBytes leaves the highest bit out, as the document has it for points.
func fromBytes(b [api.Key]byte) number {
	var n number
	for i := 0; i < allBits; i++ {
		n[i/limbBits] |= bitOf(b, i) << uint(i%limbBits)
	}
	return n
}

func (n number) bytes() [api.Key]byte {
	least := n.least()
	var b [api.Key]byte
	for i := 0; i < allBits; i++ {
		bit := least[i/limbBits] >> uint(i%limbBits) & 1
		b[i/8] |= byte(bit << uint(i%8))
	}
	return b
}

// carried leaves in the last limb all that stands above the others.
func (n number) carried() number {
	for i := 0; i < last; i++ {
		n[i+1] += n[i] >> limbBits
		n[i] &= limbMask
	}
	return n
}

func (n number) wrapped() number {
	above := n[last] >> lastBits
	n[last] &= lastMask
	n[0] += wrap * above
	return n
}

// tidy goes over the limbs twice: what wraps around the first time may be
// large and runs up the limbs again; the second time it is one wrap at most,
// and then the limbs above are noughts.
func (n number) tidy() number {
	for pass := 0; pass < 2; pass++ {
		n = n.carried()
		n = n.wrapped()
	}
	return n
}

// least is the number below p. n is at least p just if n + 19 reaches bit
// 255, and then n - p is n + 19 without that bit.
func (n number) least() number {
	probe := n
	probe[0] += wrap
	probe = probe.carried()
	reaches := probe[last] >> lastBits
	n[0] += wrap * reaches
	n = n.carried()
	n[last] &= lastMask
	return n
}

func (n number) plus(m number) number {
	for i := 0; i < limbs; i++ {
		n[i] += m[i]
	}
	return n.tidy()
}

// minus adds 2p first, limb by limb, so that no limb falls below 0.
func (n number) minus(m number) number {
	n[0] += 2*(limbMask+1-wrap) - m[0]
	for i := 1; i < last; i++ {
		n[i] += 2*limbMask - m[i]
	}
	n[last] += 2*lastMask - m[last]
	return n.tidy()
}

func (n number) times(m number) number {
	var wide [2 * limbs]uint32
	for i := 0; i < limbs; i++ {
		for j := 0; j < limbs; j++ {
			wide[i+j] += n[i] * m[j]
		}
	}
	return narrowed(wide)
}

// narrowed carries before it wraps: the columns of a product are too large to
// be taken times wideWrap in 32 bits.
func narrowed(wide [2 * limbs]uint32) number {
	for i := 0; i < 2*limbs-1; i++ {
		wide[i+1] += wide[i] >> limbBits
		wide[i] &= limbMask
	}
	var n number
	for i := 0; i < limbs; i++ {
		n[i] = wide[i] + wideWrap*wide[limbs+i]
	}
	return n.tidy()
}

func (n number) square() number {
	return n.times(n)
}

// timesFactor takes n times the curve's own factor; a limb times it fits into
// 32 bits.
func (n number) timesFactor() number {
	for i := 0; i < limbs; i++ {
		n[i] *= factor
	}
	return n.tidy()
}

// inverse is n^(p-2). Of the 255 bits of p - 2 = 2^255 - 21 all are 1 but
// bits 2 and 4; the highest is n itself.
func (n number) inverse() number {
	power := n
	for bit := allBits - 2; bit >= 0; bit-- {
		power = power.square()
		if bit != 2 && bit != 4 {
			power = power.times(n)
		}
	}
	return power
}
