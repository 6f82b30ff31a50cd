package session_test

import (
	"crypto/ecdh"
	"crypto/hkdf"
	"crypto/hmac"
	"crypto/sha256"
	"encoding/binary"
	"encoding/hex"
	"math/rand"
	"testing"

	"messenger/api"
	"messenger/session"
	"messenger/stream"
)

// model: a session as the document has it, by Go's library; the tests compare
// the program with it.
type model struct {
	root, self               string
	theirs, sending, reading string
	ns, nr, pn               int
	kept                     []modelKey
	past, draws              []string
}

type modelKey struct {
	point  string
	number int
	key    string
}

func two(n int) string {
	return string(binary.BigEndian.AppendUint16(nil, uint16(n)))
}

func maybe(text string) string {
	if text == "" {
		return "\x00"
	}
	return "\x01" + text
}

func keptBytes(kept []modelKey) string {
	text := string([]byte{byte(len(kept))})
	for _, k := range kept {
		text += k.point + two(k.number) + k.key
	}
	return text
}

func listBytes(list []string) string {
	text := string([]byte{byte(len(list))})
	for _, s := range list {
		text += s
	}
	return text
}

func (m *model) bytes() string {
	return "RS" + m.root + m.self + maybe(m.theirs) + maybe(m.sending) + maybe(m.reading) +
		two(m.ns) + two(m.nr) + two(m.pn) + keptBytes(m.kept) + listBytes(m.past) + listBytes(m.draws)
}

func mac(key string, text string) string {
	h := hmac.New(sha256.New, []byte(key))
	h.Write([]byte(text))
	return string(h.Sum(nil))
}

func derived(salt string, text string, purpose string, n int) string {
	b, err := hkdf.Key(sha256.New, []byte(text), []byte(salt), purpose, n)
	if err != nil {
		panic(err)
	}
	return string(b)
}

// shared is empty where the library refuses a point that all keys take to 0.
func shared(self string, theirs string) string {
	private, err := ecdh.X25519().NewPrivateKey([]byte(self))
	if err != nil {
		panic(err)
	}
	public, err := ecdh.X25519().NewPublicKey([]byte(theirs))
	if err != nil {
		panic(err)
	}
	b, err := private.ECDH(public)
	if err != nil {
		return ""
	}
	return string(b)
}

func modelStart(secret string, theirs string, self string) *model {
	both := derived(secret, shared(self, theirs), "root", 64)
	return &model{root: both[:32], sending: both[32:], theirs: theirs, self: self}
}

func (m *model) lay(draw string) api.Errno {
	if len(draw) != 32 {
		return api.ErrArg
	}
	if len(m.draws) == 8 {
		return api.ErrFull
	}
	m.draws = append(m.draws, draw)
	return api.OK
}

func (m *model) send(t *testing.T, text string, data string) (string, api.Errno) {
	switch {
	case len(text) > 200, len(data) > 100:
		return "", api.ErrLong
	case m.sending == "":
		return "", api.ErrChain
	case m.ns == 300:
		return "", api.ErrFull
	}
	message := sealed(mac(m.sending, "\x01"), data, wantPoint(t, m.self), m.pn, m.ns, text)
	m.sending = mac(m.sending, "\x02")
	m.ns++
	return message, api.OK
}

// sealed is a message by its key.
func sealed(key string, data string, point string, ahead int, number int, text string) string {
	head := "RM" + point + two(ahead) + two(number)
	keys := derived("", key, "message keys", 76)
	turned := stream.Turn(keys[:32], keys[64:], text)
	length := string(binary.BigEndian.AppendUint32(nil, uint32(len(data)+len(head))))
	tag := mac(keys[32:64], length+data+head+turned)
	return head + two(len(turned)) + turned + tag
}

func randomText(r *rand.Rand, n int) string {
	b := make([]byte, n)
	r.Read(b)
	return string(b)
}

func randomList(r *rand.Rand, n int) []string {
	var list []string
	for i := 0; i < n; i++ {
		list = append(list, randomText(r, 32))
	}
	return list
}

func randomKept(r *rand.Rand, n int) []modelKey {
	var list []modelKey
	for i := 0; i < n; i++ {
		list = append(list, modelKey{randomText(r, 32), r.Intn(300), randomText(r, 32)})
	}
	return list
}

// randomModel has each part now and then missing, and each number and count
// now and then at its bound.
func randomModel(r *rand.Rand) *model {
	bounded := func(most int) int {
		return []int{0, 1, r.Intn(most + 1), most - 1, most}[r.Intn(5)]
	}
	m := &model{root: randomText(r, 32), self: randomText(r, 32)}
	if r.Intn(3) > 0 {
		m.theirs = randomText(r, 32)
	}
	if r.Intn(4) > 0 {
		m.sending = randomText(r, 32)
	}
	if m.theirs != "" && r.Intn(2) > 0 {
		m.reading = randomText(r, 32)
	}
	m.ns, m.nr, m.pn = bounded(300), bounded(300), bounded(300)
	m.kept = randomKept(r, bounded(32))
	m.past = randomList(r, bounded(24))
	m.draws = randomList(r, bounded(8))
	return m
}

func unhex(t *testing.T, digits string) string {
	t.Helper()
	b, err := hex.DecodeString(digits)
	if err != nil {
		t.Fatal(err)
	}
	return string(b)
}

func start(t *testing.T, secret string, theirs string, self string) *session.Session {
	t.Helper()
	s, e := session.Start(secret, theirs, self)
	if s == nil || e != api.OK {
		t.Fatalf("P4: Start(%x, %x, %x): %d", secret, theirs, self, e)
	}
	return s
}

func wait(t *testing.T, secret string, self string) *session.Session {
	t.Helper()
	s, e := session.Wait(secret, self)
	if s == nil || e != api.OK {
		t.Fatalf("P5: Wait(%x, %x): %d", secret, self, e)
	}
	return s
}

func imported(t *testing.T, state string) *session.Session {
	t.Helper()
	s, e := session.Import(state)
	if s == nil || e != api.OK {
		t.Fatalf("P10: Import(%x): %d", state, e)
	}
	return s
}

func checkState(t *testing.T, what string, s *session.Session, want string) {
	t.Helper()
	if state := s.Export(); state != want {
		t.Errorf("%s: the state is %x, want %x", what, state, want)
	}
}

func checkSend(t *testing.T, s *session.Session, text string, data string, want string) {
	t.Helper()
	message, e := s.Send(text, data)
	if message != want || e != api.OK {
		t.Errorf("P7: Send(%x, %x) = %x, %d, want %x", text, data, message, e, want)
	}
}

// refuseSend checks that a Send is refused, and that nothing has changed.
func refuseSend(t *testing.T, s *session.Session, text string, data string, want api.Errno) {
	t.Helper()
	was := s.Export()
	message, e := s.Send(text, data)
	if message != "" || e != want {
		t.Errorf("P7: Send of %d and %d bytes = %x, %d, want %d", len(text), len(data), message, e, want)
	}
	checkState(t, "P1: behind a Send that was refused", s, was)
}

// refuseLay checks that a Lay is refused, and that nothing has changed.
func refuseLay(t *testing.T, s *session.Session, draw string, want api.Errno) {
	t.Helper()
	was := s.Export()
	if e := s.Lay(draw); e != want {
		t.Errorf("P6: Lay of %d bytes: %d, want %d", len(draw), e, want)
	}
	checkState(t, "P1: behind a Lay that was refused", s, was)
}
