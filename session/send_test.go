package session_test

import (
	"math/rand"
	"strings"
	"testing"

	"messenger/api"
)

const (
	helloMessage = "524da4e09292b651c278b9772c569f5fa9bb13d906b46ab68c9df9dc2b4409f8a20900000000000560002ed52e34773a5847b6103fe1163aef15bc57d8f36d2f983bb8e3a2c54ef0f93ac9e357"
	emptyMessage = "524da4e09292b651c278b9772c569f5fa9bb13d906b46ab68c9df9dc2b4409f8a209000000010000635754f18cfafbaca0aa8ab43ee9f0837282b10d934cac68292ad450212816ee"
	thirdMessage = "524da4e09292b651c278b9772c569f5fa9bb13d906b46ab68c9df9dc2b4409f8a20900000002000551c81e1dd24e8fb0d7e086c7883dc48c3a4d9e7f978a3fac52deed4a1e6149a3e426abef0b"
	backMessage  = "524d5dfedd3b6bd47f6fa28ee15d969d5bb0ea53774d488bdaf9df1c6e0124b3ef2200000000000491050516971aa17d78a6c2e8fbca08cb6937a42aa693b0a5b3106145815d827b14b63d6d"
)

func TestSendExamples(t *testing.T) {
	s := start(t, same(5), wantPoint(t, same(2)), same(1))
	checkSend(t, s, "hello", "", unhex(t, helloMessage))
	checkSend(t, s, "", "data", unhex(t, emptyMessage))
	checkSend(t, s, "third", "", unhex(t, thirdMessage))
	checkSend(t, imported(t, unhex(t, readState)), "back", "", unhex(t, backMessage))
}

func TestSendLengths(t *testing.T) {
	r := rand.New(rand.NewSource(5))
	m := modelStart(same(5), wantPoint(t, same(2)), same(1))
	s := start(t, same(5), wantPoint(t, same(2)), same(1))
	for _, c := range [][2]int{{0, 0}, {1, 0}, {0, 1}, {63, 63}, {64, 64}, {65, 65}, {128, 99}, {199, 100}, {200, 0}, {0, 100}, {200, 100}} {
		text, data := randomText(r, c[0]), randomText(r, c[1])
		want, _ := m.send(t, text, data)
		checkSend(t, s, text, data, want)
		if len(want) != 72+c[0] {
			t.Errorf("P7: a message of %d bytes has %d", c[0], len(want))
		}
		checkState(t, "P7", s, m.bytes())
	}
}

// longTexts are texts and data of which one is too long.
func longTexts() [][2]string {
	return [][2]string{
		{strings.Repeat("t", 201), ""}, {"", strings.Repeat("d", 101)},
		{strings.Repeat("t", 201), strings.Repeat("d", 100)}, {strings.Repeat("t", 200), strings.Repeat("d", 101)},
		{strings.Repeat("t", 201), strings.Repeat("d", 101)}, {strings.Repeat("é", 101), ""},
		{strings.Repeat("t", 1<<20), ""}, {"", strings.Repeat("d", 1<<20)},
	}
}

func TestSendLong(t *testing.T) {
	s := start(t, same(5), wantPoint(t, same(2)), same(1))
	for _, c := range longTexts() {
		refuseSend(t, s, c[0], c[1], api.ErrLong)
	}
	checkSend(t, s, "hello", "", unhex(t, helloMessage))
}

func TestSendWithoutChain(t *testing.T) {
	s := wait(t, same(5), same(2))
	refuseSend(t, s, "x", "", api.ErrChain)
	refuseSend(t, s, "", "", api.ErrChain)
	refuseSend(t, s, strings.Repeat("t", 200), strings.Repeat("d", 100), api.ErrChain)
	s.Lay(same(3))
	refuseSend(t, s, "x", "", api.ErrChain)
}

func TestSendToTheEnd(t *testing.T) {
	m := modelStart(same(5), wantPoint(t, same(2)), same(1))
	s := start(t, same(5), wantPoint(t, same(2)), same(1))
	for n := 0; n < api.MaxCount; n++ {
		want, _ := m.send(t, "", "")
		checkSend(t, s, "", "", want)
	}
	checkState(t, "P7", s, m.bytes())
	if m.ns != 300 {
		t.Errorf("the model has sent %d messages", m.ns)
	}
	refuseSend(t, s, "", "", api.ErrFull)
	refuseSend(t, s, "x", "data", api.ErrFull)
}

// Where several errors apply, the one named first is the answer.
func TestSendOrderOfErrors(t *testing.T) {
	full := model{root: same(5), self: same(1), ns: 300}
	for _, c := range longTexts() {
		refuseSend(t, wait(t, same(5), same(2)), c[0], c[1], api.ErrLong)
		refuseSend(t, imported(t, full.bytes()), c[0], c[1], api.ErrLong)
	}
	refuseSend(t, imported(t, full.bytes()), "", "", api.ErrChain)
	full.sending = same(6)
	for _, c := range longTexts() {
		refuseSend(t, imported(t, full.bytes()), c[0], c[1], api.ErrLong)
	}
	refuseSend(t, imported(t, full.bytes()), "", "", api.ErrFull)
}

// The head has what the state has: Pn, and Ns up to its bound.
func TestSendHead(t *testing.T) {
	for _, c := range [][2]int{{0, 0}, {0, 255}, {1, 256}, {255, 298}, {256, 299}, {300, 299}} {
		m := model{root: same(5), self: same(1), sending: same(6), pn: c[0], ns: c[1], nr: 77}
		s := imported(t, m.bytes())
		message, e := s.Send("text", "data")
		want, _ := m.send(t, "text", "data")
		if message != want || e != api.OK {
			t.Errorf("P7: Pn %d, Ns %d: %x, %d, want %x", c[0], c[1], message, e, want)
		}
		if message[:38] != "RM"+wantPoint(t, same(1))+two(c[0])+two(c[1]) {
			t.Errorf("P7: Pn %d, Ns %d: the head is %x", c[0], c[1], message[:38])
		}
		checkState(t, "P7", s, m.bytes())
	}
}
