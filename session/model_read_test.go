package session_test

import (
	"encoding/binary"
	"math/rand"
	"slices"
	"testing"

	"messenger/api"
	"messenger/session"
	"messenger/stream"
)

func numberAt(text string, at int) int {
	return int(binary.BigEndian.Uint16([]byte(text[at : at+2])))
}

// isMessage tells what the document calls a message, apart from the program.
func isMessage(s string) bool {
	return len(s) >= 72 && s[:2] == "RM" && numberAt(s, 34) <= 300 && numberAt(s, 36) <= 299 &&
		numberAt(s, 38) <= 200 && len(s) == 72+numberAt(s, 38)
}

// unsealed is the text of a message by its key, if it is sealed by that key.
func unsealed(key string, message string, data string) (string, api.Errno) {
	keys := derived("", key, "message keys", 76)
	text := stream.Turn(keys[:32], keys[64:], message[40:len(message)-32])
	if sealed(key, data, message[2:34], numberAt(message, 34), numberAt(message, 36), text) != message {
		return "", api.ErrAuth
	}
	return text, api.OK
}

// keyAt is the key of a chain's message that is n messages further on.
func keyAt(chain string, n int) string {
	for ; n > 0; n-- {
		chain = mac(chain, "\x02")
	}
	return mac(chain, "\x01")
}

func (m *model) copied() *model {
	c := *m
	c.kept = slices.Clone(m.kept)
	c.past = slices.Clone(m.past)
	c.draws = slices.Clone(m.draws)
	return &c
}

func (m *model) read(message string, data string) (string, api.Errno) {
	if len(data) > 100 {
		return "", api.ErrLong
	}
	if !isMessage(message) {
		return "", api.ErrSyntax
	}
	after := m.copied()
	text, e := after.fits(message, data)
	if e != api.OK {
		return "", e
	}
	*m = *after
	return text, api.OK
}

func (m *model) fits(message string, data string) (string, api.Errno) {
	point, ahead, number := message[2:34], numberAt(message, 34), numberAt(message, 36)
	at := slices.IndexFunc(m.kept, func(k modelKey) bool { return k.point == point && k.number == number })
	if at >= 0 {
		key := m.kept[at].key
		m.kept = slices.Delete(m.kept, at, at+1)
		return unsealed(key, message, data)
	}
	if point == m.theirs {
		if m.reading == "" || number < m.nr {
			return "", api.ErrOld
		}
		if number-m.nr > 20 {
			return "", api.ErrSkip
		}
		return m.reads(message, data, number)
	}
	if slices.Contains(m.past, point) {
		return "", api.ErrOld
	}
	switch {
	case m.reading != "" && ahead-m.nr > 20, number > 20:
		return "", api.ErrSkip
	case m.theirs != "" && len(m.past) == 24:
		return "", api.ErrFull
	case len(m.draws) == 0:
		return "", api.ErrDraw
	case shared(m.self, point) == "":
		return "", api.ErrZero
	}
	if m.reading != "" {
		m.keeps(ahead)
	}
	if m.theirs != "" {
		m.past = append(m.past, m.theirs)
	}
	m.theirs = point
	m.root, m.reading = m.turned(point)
	m.nr = 0
	text, e := m.reads(message, data, number)
	m.self, m.draws = m.draws[0], m.draws[1:]
	m.root, m.sending = m.turned(point)
	m.pn, m.ns = m.ns, 0
	return text, e
}

func (m *model) turned(point string) (string, string) {
	both := derived(m.root, shared(m.self, point), "root", 64)
	return both[:32], both[32:]
}

func (m *model) keeps(number int) {
	for ; m.nr < number; m.nr++ {
		m.kept = append(m.kept, modelKey{m.theirs, m.nr, mac(m.reading, "\x01")})
		m.reading = mac(m.reading, "\x02")
		if len(m.kept) > 32 {
			m.kept = m.kept[1:]
		}
	}
}

func (m *model) reads(message string, data string, number int) (string, api.Errno) {
	m.keeps(number)
	key := mac(m.reading, "\x01")
	m.reading = mac(m.reading, "\x02")
	m.nr = number + 1
	return unsealed(key, message, data)
}

// keptMessage is a message whose key is kept.
func (m *model) keptMessage(at int, data string, text string) string {
	k := m.kept[at]
	return sealed(k.key, data, k.point, 7, k.number, text)
}

// nextMessage is one of the chain of reading, not ahead of Nr.
func (m *model) nextMessage(number int, data string, text string) string {
	return sealed(keyAt(m.reading, number-m.nr), data, m.theirs, 7, number, text)
}

// newMessage is one of a new point. Of a point that all keys take to 0 there is
// none: then its key is any.
func (m *model) newMessage(point string, ahead int, number int, data string, text string) string {
	_, chain := m.turned(point)
	return sealed(keyAt(chain, number), data, point, ahead, number, text)
}

// randomMessage mostly fits the model: by a kept key, by the chain of reading,
// by a new point; its numbers are often at the edges.
func (m *model) randomMessage(r *rand.Rand, data string) string {
	text := randomText(r, []int{0, 1, r.Intn(200), 200}[r.Intn(4)])
	near := func(n int) int {
		return min(max(n+[]int{-1, 0, 0, 1, r.Intn(20), 20, 21}[r.Intn(7)], 0), 299)
	}
	message := sealed(same(1), data, randomText(r, 32), near(0), near(0), text)
	switch kind := r.Intn(8); {
	case kind < 2 && len(m.kept) > 0:
		message = m.keptMessage(r.Intn(len(m.kept)), data, text)
	case kind < 4 && m.theirs != "":
		message = m.nextMessage(near(m.nr), data, text)
	case kind == 4 && len(m.past) > 0:
		message = sealed(same(1), data, m.past[r.Intn(len(m.past))], near(m.nr), near(0), text)
	case kind < 7:
		message = m.newMessage(randomText(r, 32), near(m.nr), near(0), data, text)
	}
	if r.Intn(8) == 0 {
		message = bend(r, message)
	}
	return message
}

// checkAsModel reads a message by a session and by the model of it.
func checkAsModel(t *testing.T, what string, s *session.Session, m *model, message string, data string) (string, api.Errno) {
	t.Helper()
	text, e := s.Read(message, data)
	wantText, want := m.read(message, data)
	if text != wantText || e != want {
		t.Errorf("P8: %s: Read(%x, %x) = %x, %d, want %x, %d", what, message, data, text, e, wantText, want)
	}
	checkState(t, "P8: "+what, s, m.bytes())
	return text, e
}

// checkRead imports the model's state, reads a message, and checks the answer
// and the state behind it, which is the model's and is laid into it.
func checkRead(t *testing.T, what string, m *model, message string, data string, wantText string, want api.Errno) {
	t.Helper()
	s := imported(t, m.bytes())
	was := m.bytes()
	text, e := checkAsModel(t, what, s, m, message, data)
	if text != wantText || e != want {
		t.Errorf("P8: %s: Read = %x, %d, want %x, %d", what, text, e, wantText, want)
	}
	if unchanged := s.Export() == was; unchanged != (want != api.OK) {
		t.Errorf("P1, P8: %s: %d, and the state is what it was: %v", what, e, unchanged)
	}
}

// refuseRead checks that a Read is refused, and that nothing has changed.
func refuseRead(t *testing.T, what string, s *session.Session, message string, data string, want api.Errno) {
	t.Helper()
	was := s.Export()
	text, e := s.Read(message, data)
	if text != "" || e != want {
		t.Errorf("P8: %s: Read = %x, %d, want %d", what, text, e, want)
	}
	checkState(t, "P1: behind a Read that was refused: "+what, s, was)
}

// reads checks that a message is read.
func reads(t *testing.T, what string, s *session.Session, message string, data string, want string) {
	t.Helper()
	text, e := s.Read(message, data)
	if text != want || e != api.OK {
		t.Errorf("P8: %s: Read = %x, %d, want %x", what, text, e, want)
	}
}
