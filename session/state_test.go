package session_test

import (
	"encoding/binary"
	"math/rand"
	"strings"
	"testing"

	"messenger/api"
	"messenger/session"
)

// isState tells what the document calls a state, apart from the program and
// from the model.
func isState(s string) bool {
	if len(s) < 66 || s[:2] != "RS" {
		return false
	}
	at := 66
	there := [3]bool{}
	for i := range there {
		if at >= len(s) || s[at] > 1 {
			return false
		}
		there[i] = s[at] == 1
		at++
		if there[i] {
			at += 32
		}
	}
	if there[2] && !there[0] || at+6 > len(s) {
		return false
	}
	for i := 0; i < 3; i++ {
		if binary.BigEndian.Uint16([]byte(s[at:at+2])) > 300 {
			return false
		}
		at += 2
	}
	for i, size := range []int{66, 32, 32} {
		if at >= len(s) || int(s[at]) > []int{32, 24, 8}[i] || at+1+int(s[at])*size > len(s) {
			return false
		}
		for n := 0; i == 0 && n < int(s[at]); n++ {
			from := at + 1 + n*size + 32
			if binary.BigEndian.Uint16([]byte(s[from:from+2])) > 299 {
				return false
			}
		}
		at += 1 + int(s[at])*size
	}
	return at == len(s)
}

// checkImport checks what Import answers, and that it is exported as it was.
func checkImport(t *testing.T, what string, state string, fine bool) {
	t.Helper()
	s, e := session.Import(state)
	if !fine {
		if s != nil || e != api.ErrSyntax {
			t.Errorf("P10: %s: %v, %d, want ErrSyntax", what, s != nil, e)
		}
		return
	}
	if s == nil || e != api.OK {
		t.Errorf("P10: %s: %v, %d, want a session", what, s != nil, e)
		return
	}
	checkState(t, "P10: "+what, s, state)
}

// fullModel has every part, and every number and count at its bound.
func fullModel() *model {
	r := rand.New(rand.NewSource(6))
	m := &model{root: same(1), self: same(2), theirs: same(3), sending: same(4), reading: same(5), ns: 300, nr: 300, pn: 300}
	m.kept = randomKept(r, 32)
	m.kept[0].number = 299
	m.kept[31].number = 299
	m.past = randomList(r, 24)
	m.draws = randomList(r, 8)
	return m
}

func TestImportParts(t *testing.T) {
	for parts := 0; parts < 8; parts++ {
		m := model{root: same(1), self: same(2)}
		if parts&1 != 0 {
			m.theirs = same(0)
		}
		if parts&2 != 0 {
			m.sending = same(0)
		}
		if parts&4 != 0 {
			m.reading = same(0)
		}
		checkImport(t, "parts that are missing", m.bytes(), m.reading == "" || m.theirs != "")
	}
}

// Where a part's first byte is another than 0 and 1 there is no state, whether
// the part's bytes follow or not.
func TestImportPartBytes(t *testing.T) {
	for c := 2; c < 256; c++ {
		mark := string([]byte{byte(c)})
		rest := strings.Repeat("\x00", 9)
		front := "RS" + same(1) + same(2)
		for _, part := range []string{mark, mark + same(3)} {
			checkImport(t, "the point's byte", front+part+"\x00\x00"+rest, false)
			checkImport(t, "the byte of the chain of sending", front+"\x00"+part+"\x00"+rest, false)
			checkImport(t, "the byte of the chain of reading", front+"\x01"+same(3)+"\x00"+part+rest, false)
		}
	}
}

func TestImportNumbers(t *testing.T) {
	for _, n := range []int{0, 1, 44, 45, 255, 256, 299, 300, 301, 511, 512, 0x2c01, 65535} {
		checkImport(t, "Ns", (&model{root: same(1), self: same(2), ns: n}).bytes(), n <= 300)
		checkImport(t, "Nr", (&model{root: same(1), self: same(2), nr: n}).bytes(), n <= 300)
		checkImport(t, "Pn", (&model{root: same(1), self: same(2), pn: n}).bytes(), n <= 300)
		for at := 0; at < 32; at++ {
			m := fullModel()
			m.kept[at].number = n
			checkImport(t, "a kept key's number", m.bytes(), n <= 299)
		}
	}
}

func TestImportCounts(t *testing.T) {
	r := rand.New(rand.NewSource(7))
	for n := 0; n < 256; n++ {
		checkImport(t, "kept keys", (&model{root: same(1), self: same(2), kept: randomKept(r, n)}).bytes(), n <= 32)
		checkImport(t, "points that have been", (&model{root: same(1), self: same(2), past: randomList(r, n)}).bytes(), n <= 24)
		checkImport(t, "draws", (&model{root: same(1), self: same(2), draws: randomList(r, n)}).bytes(), n <= 8)
	}
	m := fullModel()
	m.kept = append(m.kept, m.kept[0])
	checkImport(t, "33 kept keys beside all else", m.bytes(), false)
	m = fullModel()
	m.past = append(m.past, same(9))
	checkImport(t, "25 points beside all else", m.bytes(), false)
	m = fullModel()
	m.draws = append(m.draws, same(9))
	checkImport(t, "9 draws beside all else", m.bytes(), false)
}

// Nothing is asked of points and keys that are kept but their length: they may
// be alike, and the other side's own.
func TestImportAlike(t *testing.T) {
	m := model{root: same(0), self: same(0), theirs: same(0)}
	for i := 0; i < 5; i++ {
		m.kept = append(m.kept, modelKey{same(0), 0, same(0)})
		m.past = append(m.past, same(0))
		m.draws = append(m.draws, same(0))
	}
	checkImport(t, "parts that are alike", m.bytes(), true)
}

func TestImportLengths(t *testing.T) {
	r := rand.New(rand.NewSource(8))
	states := []string{unhex(t, startState), unhex(t, readState), wait(t, same(5), same(2)).Export(), fullModel().bytes()}
	for i := 0; i < 10; i++ {
		states = append(states, randomModel(r).bytes())
	}
	for _, state := range states {
		checkImport(t, "a state", state, true)
		for n := 0; n < len(state); n++ {
			checkImport(t, "a state's first bytes", state[:n], false)
		}
		for _, behind := range []string{"\x00", "\x01", "\xff", same(0), state} {
			checkImport(t, "a state with something behind it", state+behind, false)
		}
		checkImport(t, "a state with a byte ahead of it", "\x00"+state, false)
		checkImport(t, "a state without its first byte", state[1:], false)
	}
}

func TestImportMarks(t *testing.T) {
	rest := same(1) + same(2) + strings.Repeat("\x00", 12)
	checkImport(t, "the mark RS", "RS"+rest, true)
	for _, mark := range []string{"", "R", "RM", "SR", "rs", "Rs", "rS", "\x00\x00", "RSS"} {
		checkImport(t, "the mark "+mark, mark+rest, false)
	}
	for _, text := range []string{"", "RS", "x", same(0), strings.Repeat("RS", 1<<20), strings.Repeat("\x00", 1<<20)} {
		checkImport(t, "a text that is none", text, false)
	}
	checkImport(t, "a message", unhex(t, helloMessage), false)
}

// Every byte of these states becomes every other.
func TestImportEveryByte(t *testing.T) {
	short := model{root: same(1), self: same(2)}
	small := model{root: same(1), self: same(2), theirs: same(3), sending: same(4), reading: same(5), ns: 300, nr: 1, pn: 299}
	small.kept = []modelKey{{same(6), 299, same(7)}}
	small.past = []string{same(8)}
	small.draws = []string{same(9)}
	for _, state := range []string{short.bytes(), small.bytes()} {
		for at := 0; at < len(state); at++ {
			for c := 0; c < 256; c++ {
				turned := state[:at] + string([]byte{byte(c)}) + state[at+1:]
				checkImport(t, "a state with a byte turned", turned, isState(turned))
			}
		}
	}
}

func bend(r *rand.Rand, state string) string {
	at := r.Intn(len(state))
	switch r.Intn(4) {
	case 0:
		return state[:at] + state[at+1:]
	case 1:
		return state[:at] + string([]byte{byte(r.Intn(4))}) + state[at:]
	case 2:
		return state[:at] + state[at+r.Intn(len(state)-at):]
	}
	return state[:at] + string([]byte{byte(r.Intn(256))}) + state[at+1:]
}

func TestImportBent(t *testing.T) {
	r := rand.New(rand.NewSource(9))
	for i := 0; i < 5000; i++ {
		state := bend(r, randomModel(r).bytes())
		checkImport(t, "a bent state", state, isState(state))
	}
}

// goOn does the same with a session and with the model.
func goOn(t *testing.T, r *rand.Rand, s *session.Session, m *model) {
	t.Helper()
	switch r.Intn(4) {
	case 0:
		draw := randomText(r, []int{32, 32, 32, 31, 33, 0}[r.Intn(6)])
		e := s.Lay(draw)
		if want := m.lay(draw); e != want {
			t.Errorf("P6, P10: Lay of %d bytes: %d, want %d", len(draw), e, want)
		}
	case 1:
		data := randomText(r, []int{0, r.Intn(100), 100, 101}[r.Intn(4)])
		checkAsModel(t, "P10", s, m, m.randomMessage(r, data), data)
	default:
		text := randomText(r, []int{0, r.Intn(200), 200, 201}[r.Intn(4)])
		data := randomText(r, []int{0, r.Intn(100), 100, 101}[r.Intn(4)])
		message, e := s.Send(text, data)
		want, wantE := m.send(t, text, data)
		if message != want || e != wantE {
			t.Errorf("P7, P10: Send of %d and %d bytes = %x, %d, want %x, %d", len(text), len(data), message, e, want, wantE)
		}
	}
	checkState(t, "P10", s, m.bytes())
}

func TestImportedGoesOn(t *testing.T) {
	r := rand.New(rand.NewSource(10))
	models := []*model{fullModel(), {root: same(5), self: same(2)}}
	for i := 0; i < 150; i++ {
		models = append(models, randomModel(r))
	}
	for _, m := range models {
		s := imported(t, m.bytes())
		checkState(t, "P10", s, m.bytes())
		for n := 0; n < 8; n++ {
			goOn(t, r, s, m)
		}
	}
}

// A session that is exported and imported ahead of every call goes on as one
// that never was.
func TestImportAheadOfEveryCall(t *testing.T) {
	r := rand.New(rand.NewSource(11))
	m := modelStart(same(5), wantPoint(t, same(2)), same(1))
	s := start(t, same(5), wantPoint(t, same(2)), same(1))
	for n := 0; n < 60; n++ {
		goOn(t, r, s, m)
		s = imported(t, s.Export())
	}
}
