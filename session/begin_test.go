package session_test

import (
	"math/rand"
	"strings"
	"testing"

	"messenger/api"
	"messenger/session"
)

const (
	startState = "525331a9d6273ee2aa85f8fcd45e31446440ad4fd79ac439427912a79fae3cb053fe010101010101010101010101010101010101010101010101010101010101010101ce8d3ad1ccb633ec7b70c17814a5c76ecd029685050d344745ba05870e587d590108ab6ea6b0124a5370f4e0db37ba87496c82683797e6bc89366d23f3a6b9267a00000000000000000000"
	readState  = "5253ad2dabd277c5ca9a9dfeb722c94db02fcfd5f4801ee4cbc29130709b161f446b030303030303030303030303030303030303030303030303030303030303030301a4e09292b651c278b9772c569f5fa9bb13d906b46ab68c9df9dc2b4409f8a20901f6a7af7cc048cd2084a158674da9584c72e3099ca6a64a957656bac36c59a8fd01d8a054653f9cbfefa7696a6bd2e392d4b394bbc1a20ac74e0607671fb629b9e000000003000002a4e09292b651c278b9772c569f5fa9bb13d906b46ab68c9df9dc2b4409f8a20900005b981a49541a5c4de4eec34992d95f970ddb1b6009e0d97384c1092f973b02c7a4e09292b651c278b9772c569f5fa9bb13d906b46ab68c9df9dc2b4409f8a2090001d70b102d23fe706448cd2dd5546ec7e1a4f0661216ca97013c36b74fa65989d50000"
)

// wrongTexts are texts that have not 32 bytes.
func wrongTexts() []string {
	return []string{
		"", "k", same(1)[:31], same(1) + "\x01", same(1) + same(1), strings.Repeat("é", 32),
		same(0)[:31], same(0) + "\x00", strings.Repeat("k", 1<<20),
	}
}

func TestStartExample(t *testing.T) {
	s := start(t, same(5), wantPoint(t, same(2)), same(1))
	checkState(t, "P4", s, unhex(t, startState))
}

func TestStartAsModel(t *testing.T) {
	r := rand.New(rand.NewSource(4))
	for i := 0; i < 60; i++ {
		secret, theirs, self := randomText(r, 32), randomText(r, 32), randomText(r, 32)
		s := start(t, secret, theirs, self)
		checkState(t, "P4", s, modelStart(secret, theirs, self).bytes())
	}
}

// A point's highest bit and the bits that CLAMP sets do not count for the
// shared point, but the state has point and key as they were given.
func TestStartKeepsPointAndKey(t *testing.T) {
	point := []byte(wantPoint(t, same(2)))
	point[31] |= 0x80
	key := []byte(same(1))
	key[0] |= 7
	key[31] |= 0x80
	plain := modelStart(same(5), wantPoint(t, same(2)), same(1))
	plain.theirs = string(point)
	plain.self = string(key)
	s := start(t, same(5), string(point), string(key))
	checkState(t, "P4", s, plain.bytes())
}

// The points that all keys take to 0, with and without the highest bit.
func zeroPoints(t *testing.T) []string {
	points := []string{
		same(0),
		"\x01" + same(0)[:31],
		unhex(t, "e0eb7a7c3b41b8ae1656e3faf19fc46ada098deb9c32b1fd866205165f49b800"),
		unhex(t, "5f9c95bca3508c24b1d0b1559c83ef5b04445cc4581c8e86d8224eddd09f1157"),
		"\xec" + same(255)[:30] + "\x7f",
		"\xed" + same(255)[:30] + "\x7f",
		"\xee" + same(255)[:30] + "\x7f",
	}
	for _, p := range points[:7] {
		high := []byte(p)
		high[31] |= 0x80
		points = append(points, string(high))
	}
	return points
}

func TestStartZero(t *testing.T) {
	for _, point := range zeroPoints(t) {
		for _, self := range []string{same(0), same(1), same(0x5a), same(255)} {
			s, e := session.Start(same(5), point, self)
			if s != nil || e != api.ErrZero {
				t.Errorf("P4: Start with the point %x: %v, %d, want ErrZero", point, s != nil, e)
			}
		}
	}
	// neighbours of those points are none of them
	for _, point := range []string{"\x02" + same(0)[:31], "\xeb" + same(255)[:30] + "\x7f", same(0)[:31] + "\x01", same(255)} {
		start(t, same(5), point, same(1))
	}
}

// A shared point with some noughts is none of 32 noughts.
func TestStartSomeNoughts(t *testing.T) {
	r := rand.New(rand.NewSource(13))
	for _, at := range []int{0, 15, 31} {
		theirs, self := randomText(r, 32), randomText(r, 32)
		for shared(self, theirs)[at] != 0 {
			self = randomText(r, 32)
		}
		s := start(t, same(5), theirs, self)
		checkState(t, "P4", s, modelStart(same(5), theirs, self).bytes())
	}
}

func TestStartArguments(t *testing.T) {
	point := wantPoint(t, same(2))
	for _, wrong := range wrongTexts() {
		for _, c := range [][3]string{
			{wrong, point, same(1)}, {same(5), wrong, same(1)}, {same(5), point, wrong},
			{wrong, wrong, wrong}, {wrong, same(0), same(1)}, {same(5), same(0), wrong},
		} {
			s, e := session.Start(c[0], c[1], c[2])
			if s != nil || e != api.ErrArg {
				t.Errorf("P4: Start of %d, %d, %d bytes: %v, %d, want ErrArg", len(c[0]), len(c[1]), len(c[2]), s != nil, e)
			}
		}
	}
	// 96 bytes in all are not enough
	if s, e := session.Start(same(5)+"x", point[:31], same(1)); s != nil || e != api.ErrArg {
		t.Errorf("P4: Start of 33, 31, 32 bytes: %v, %d, want ErrArg", s != nil, e)
	}
}

func TestWait(t *testing.T) {
	for _, c := range [][2]string{{same(5), same(2)}, {same(0), same(0)}, {same(255), same(255)}, {same(2), same(5)}} {
		m := model{root: c[0], self: c[1]}
		checkState(t, "P5", wait(t, c[0], c[1]), m.bytes())
	}
	checkState(t, "P5", wait(t, same(5), same(2)), "RS"+same(5)+same(2)+strings.Repeat("\x00", 12))
}

func TestWaitArguments(t *testing.T) {
	for _, wrong := range wrongTexts() {
		for _, c := range [][2]string{{wrong, same(2)}, {same(5), wrong}, {wrong, wrong}} {
			s, e := session.Wait(c[0], c[1])
			if s != nil || e != api.ErrArg {
				t.Errorf("P5: Wait of %d, %d bytes: %v, %d, want ErrArg", len(c[0]), len(c[1]), s != nil, e)
			}
		}
	}
	if s, e := session.Wait(same(5)+"x", same(2)[:31]); s != nil || e != api.ErrArg {
		t.Errorf("P5: Wait of 33, 31 bytes: %v, %d, want ErrArg", s != nil, e)
	}
}
