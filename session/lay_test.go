package session_test

import (
	"testing"

	"messenger/api"
)

func TestLay(t *testing.T) {
	m := model{root: same(5), self: same(2)}
	s := wait(t, same(5), same(2))
	for n := 0; n < api.MaxDraws; n++ {
		// the second draw is the first once more: it joins them all the same
		draw := same(byte(n / 2))
		if e := s.Lay(draw); e != api.OK {
			t.Errorf("P6: Lay number %d: %d", n, e)
		}
		m.draws = append(m.draws, draw)
		checkState(t, "P6", s, m.bytes())
	}
	refuseLay(t, s, same(9), api.ErrFull)
	refuseLay(t, s, same(0), api.ErrFull)
}

func TestLayArguments(t *testing.T) {
	s := start(t, same(5), wantPoint(t, same(2)), same(1))
	for n := 0; n <= api.MaxDraws; n++ {
		for _, wrong := range wrongTexts() {
			refuseLay(t, s, wrong, api.ErrArg)
		}
		s.Lay(same(7))
	}
	refuseLay(t, s, same(7), api.ErrFull)
}

// Draws are laid on either side, and Send takes none of them.
func TestLayBesideSend(t *testing.T) {
	m := modelStart(same(5), wantPoint(t, same(2)), same(1))
	s := start(t, same(5), wantPoint(t, same(2)), same(1))
	for n := 0; n < 3; n++ {
		draw := same(byte(40 + n))
		if e := s.Lay(draw); e != m.lay(draw) {
			t.Errorf("P6: Lay number %d: %d", n, e)
		}
		want, _ := m.send(t, "text", "data")
		checkSend(t, s, "text", "data", want)
		checkState(t, "P6, P7", s, m.bytes())
	}
}
