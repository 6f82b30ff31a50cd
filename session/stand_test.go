package session_test

import (
	"math/rand"
	"testing"

	"messenger/api"
	"messenger/session"
)

// Calls to several sessions by turns: each is as if it were alone.
func TestSessionsStandByThemselves(t *testing.T) {
	r := rand.New(rand.NewSource(12))
	var sessions []*session.Session
	var models []*model
	base := randomModel(r)
	base.sending = same(4)
	base.ns = 0
	base.draws = nil
	for i := 0; i < 4; i++ {
		models = append(models, base.copied())
		sessions = append(sessions, imported(t, base.bytes()))
	}
	models = append(models, modelStart(same(5), wantPoint(t, same(2)), same(1)))
	sessions = append(sessions, start(t, same(5), wantPoint(t, same(2)), same(1)))
	for n := 0; n < 150; n++ {
		i := r.Intn(len(sessions))
		goOn(t, r, sessions[i], models[i])
		for j := range sessions {
			checkState(t, "P2", sessions[j], models[j].bytes())
		}
	}
}

func TestCopyStandsByItself(t *testing.T) {
	for laid := 0; laid < api.MaxDraws; laid++ {
		s := wait(t, same(5), same(2))
		for n := 0; n < laid; n++ {
			s.Lay(same(byte(n)))
		}
		was := s.Export()
		other := *s
		other.Lay(same(100))
		checkState(t, "P2: behind a copy's Lay", s, was)
		want := other.Export()
		s.Lay(same(101))
		checkState(t, "P2: a copy", &other, want)
	}
}

// A copy and what it was made of read apart, whichever of them reads first.
func TestCopyReadsByItself(t *testing.T) {
	m := talking()
	messages, whats := eachKind(m, "", "text")
	for i := range messages {
		for j := range messages {
			s := imported(t, m.bytes())
			other := *s
			reads(t, whats[i]+", by the copy", &other, messages[i], "", "text")
			checkState(t, "P2: behind a copy's Read", s, m.bytes())
			want := other.Export()
			reads(t, whats[j], s, messages[j], "", "text")
			s.Lay(same(100))
			checkState(t, "P2: a copy that has read", &other, want)
			by := m.copied()
			by.read(messages[j], "")
			by.lay(same(100))
			checkState(t, "P2: whose copy has read", s, by.bytes())
		}
	}
}

// New points join those that have been in each copy apart.
func TestCopyTakesPointsByItself(t *testing.T) {
	r := rand.New(rand.NewSource(14))
	for been := 0; been <= 21; been++ {
		m := talking()
		m.past = randomList(r, been)
		s := imported(t, m.bytes())
		other := *s
		copied := m.copied()
		for n := byte(0); n < 3; n++ {
			point, otherPoint := same(60+n), same(70+n)
			checkAsModel(t, "a new point", s, m, m.newMessage(point, 0, 0, "", "text"), "")
			checkAsModel(t, "a new point, by the copy", &other, copied, copied.newMessage(otherPoint, 0, 0, "", "text"), "")
		}
		checkState(t, "P2: whose copy has read", s, m.bytes())
	}
}

// The same calls are answered alike, whatever was called before.
func TestSameCallsSameAnswers(t *testing.T) {
	var exports [3]string
	for i := range exports {
		s := start(t, same(5), wantPoint(t, same(2)), same(1))
		s.Lay(same(3))
		message, _ := s.Send("text", "data")
		other := wait(t, same(5), same(2))
		other.Lay(same(4))
		reads(t, "the same again", other, message, "data", "text")
		exports[i] = s.Export() + s.Export() + other.Export()
		session.Start("", "", "")
		session.Import("")
	}
	if exports[0] != exports[1] || exports[1] != exports[2] {
		t.Errorf("P2: the same calls: %x", exports)
	}
}

func TestNoSession(t *testing.T) {
	var s *session.Session
	if e := s.Lay(same(1)); e != api.ErrArg {
		t.Errorf("P1: Lay without a session: %d", e)
	}
	if message, e := s.Send("x", ""); message != "" || e != api.ErrChain {
		t.Errorf("P1: Send without a session: %x, %d", message, e)
	}
	if state := s.Export(); state != "" {
		t.Errorf("P1: Export without a session: %x", state)
	}
}
