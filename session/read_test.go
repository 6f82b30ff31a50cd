package session_test

import (
	"math/rand"
	"strings"
	"testing"

	"messenger/api"
	"messenger/session"
)

const onMessage = "524dac01b2209e86354fb853237b5de0f4fab13c7fcbf433a61c019369617fecf10b000300000002d2e6bd763171aff91923564a5a0c811649f5a46ac07ecfcb6575184d65e43d18ae27"

// talking is a state amid a talk: every part is there, and a message of each
// kind can be read.
func talking() *model {
	r := rand.New(rand.NewSource(20))
	m := &model{root: same(1), self: same(2), theirs: same(3), sending: same(4), reading: same(5), ns: 6, nr: 30, pn: 8}
	m.kept = randomKept(r, 4)
	m.kept = append(m.kept, modelKey{m.theirs, 28, same(10)}, modelKey{m.theirs, 29, same(11)})
	m.past = randomList(r, 3)
	m.kept = append(m.kept, modelKey{m.past[1], 2, same(12)})
	m.draws = randomList(r, 3)
	return m
}

func TestReadExamples(t *testing.T) {
	hello, empty, third := unhex(t, helloMessage), unhex(t, emptyMessage), unhex(t, thirdMessage)
	other := wait(t, same(5), same(2))
	refuseRead(t, "no draw", other, third, "", api.ErrDraw)
	refuseRead(t, "no message", other, "x", "", api.ErrSyntax)
	other.Lay(same(3))
	reads(t, "the third first", other, third, "", "third")
	checkState(t, "P8: behind the third", other, unhex(t, readState))
	checkSend(t, other, "back", "", unhex(t, backMessage))
	reads(t, "the first", other, hello, "", "hello")
	refuseRead(t, "the first again", other, hello, "", api.ErrOld)
	refuseRead(t, "the second with other data", other, empty, "", api.ErrAuth)
	reads(t, "the second", other, empty, "data", "")
	refuseRead(t, "the second again", other, empty, "data", api.ErrOld)
	refuseRead(t, "the third again", other, third, "", api.ErrOld)

	first := start(t, same(5), wantPoint(t, same(2)), same(1))
	first.Send("hello", "")
	first.Send("", "data")
	first.Send("third", "")
	first.Lay(same(4))
	reads(t, "the answer", first, unhex(t, backMessage), "", "back")
	checkSend(t, first, "on", "", unhex(t, onMessage))

	other.Lay(same(6))
	reads(t, "the message behind the answer", other, unhex(t, onMessage), "", "on")
	refuseRead(t, "one of the chain ahead", other, hello, "", api.ErrOld)
}

// eachKind answers messages of a text that the state of talking can read, and
// what they are.
func eachKind(m *model, data string, text string) ([]string, []string) {
	return []string{
		m.keptMessage(6, data, text), m.keptMessage(0, data, text), m.keptMessage(4, data, text),
		m.nextMessage(30, data, text), m.nextMessage(34, data, text),
		m.newMessage(same(9), 30, 0, data, text), m.newMessage(same(9), 33, 2, data, text),
	}, []string{
		"a kept key of a point that has been", "a kept key of any point", "a kept key of their point",
		"the next message", "a message further on",
		"a new point", "a new point, with some missing",
	}
}

func TestReadData(t *testing.T) {
	r := rand.New(rand.NewSource(21))
	for _, n := range []int{0, 1, 63, 64, 99, 100, 101, 102, 1 << 16} {
		data := randomText(r, n)
		want, wantText := api.OK, "text"
		if n > 100 {
			want, wantText = api.ErrLong, ""
		}
		messages, whats := eachKind(talking(), data, "text")
		for i, message := range messages {
			checkRead(t, whats[i], talking(), message, data, wantText, want)
			// cut, longer, and turned data are other data
			if n > 0 && n <= 100 {
				checkRead(t, whats[i]+", data cut", talking(), message, data[:n-1], "", api.ErrAuth)
				checkRead(t, whats[i]+", data turned", talking(), message, data[:n-1]+string([]byte{data[n-1] ^ 1}), "", api.ErrAuth)
			}
			if n < 100 {
				checkRead(t, whats[i]+", longer data", talking(), message, data+"\x00", "", api.ErrAuth)
			}
		}
	}
}

func TestReadLengths(t *testing.T) {
	r := rand.New(rand.NewSource(22))
	for _, n := range []int{0, 1, 2, 31, 32, 63, 64, 65, 128, 199, 200, 201, 202, 256, 300, 456} {
		text := randomText(r, n)
		messages, whats := eachKind(talking(), "data", text)
		for i, message := range messages {
			if n > 200 {
				checkRead(t, whats[i], talking(), message, "data", "", api.ErrSyntax)
				continue
			}
			checkRead(t, whats[i], talking(), message, "data", text, api.OK)
			for _, turned := range []string{message + "\x00", message[:len(message)-1], message[1:], "R" + message, message + message} {
				checkRead(t, whats[i]+", bent", talking(), turned, "data", "", api.ErrSyntax)
			}
			// the length says a byte more or less than there is
			for _, other := range []int{n + 1, n - 1, n + 256, 65535 - n} {
				turned := message[:38] + two(other) + message[40:]
				checkRead(t, whats[i]+", another length", talking(), turned, "data", "", api.ErrSyntax)
			}
		}
	}
}

func TestReadShort(t *testing.T) {
	messages, whats := eachKind(talking(), "", "a text")
	for i, message := range messages {
		s := imported(t, talking().bytes())
		for n := 0; n < len(message); n++ {
			refuseRead(t, whats[i]+", its first bytes", s, message[:n], "", api.ErrSyntax)
			refuseRead(t, whats[i]+", without a byte", s, message[:n]+message[n+1:], "", api.ErrSyntax)
			refuseRead(t, whats[i]+", with a byte more", s, message[:n]+"\x00"+message[n:], "", api.ErrSyntax)
		}
		checkState(t, "P1", s, talking().bytes())
	}
}

func TestReadNoMessage(t *testing.T) {
	m := talking()
	message := m.nextMessage(30, "", "text")
	wrong := []string{
		"", "x", "R", "RM", "RS", same(0), m.bytes(), strings.Repeat("RM", 1<<20), strings.Repeat("\x00", 1<<20),
		strings.Repeat("\x00", 72), strings.Repeat("\xff", 72), "RM" + strings.Repeat("\xff", 70),
	}
	for _, mark := range []string{"", "R", "M", "RS", "MR", "rm", "Rm", "rM", "\x00\x00", "RMM", "RMRM"} {
		wrong = append(wrong, mark+message[2:])
	}
	s := imported(t, m.bytes())
	for _, text := range wrong {
		refuseRead(t, "no message", s, text, "", api.ErrSyntax)
	}
	reads(t, "the message", s, message, "", "text")
}

// Every bit of the messages is turned: none of them is read.
func TestReadEveryBit(t *testing.T) {
	messages, whats := eachKind(talking(), "data", "a text")
	for i, message := range messages {
		for bit := 0; bit < 8*len(message); bit++ {
			turned := []byte(message)
			turned[bit/8] ^= 1 << (bit % 8)
			m := talking()
			s := imported(t, m.bytes())
			_, e := checkAsModel(t, whats[i], s, m, string(turned), "data")
			if e == api.OK || bit >= 40*8 && e != api.ErrAuth {
				t.Errorf("P9: %s, bit %d of byte %d turned: %d", whats[i], bit%8, bit/8, e)
			}
			checkState(t, "P1: behind a message with a bit turned", s, talking().bytes())
		}
	}
}

// A key of a text or of a tag alone is not enough: they are not exchanged.
func TestReadExchanged(t *testing.T) {
	m := talking()
	one, next := m.nextMessage(30, "", "one"), m.nextMessage(31, "", "two")
	other := m.nextMessage(30, "", "owe")
	s := imported(t, m.bytes())
	refuseRead(t, "the head of another", s, next[:38]+one[38:], "", api.ErrAuth)
	refuseRead(t, "the text of another", s, one[:40]+next[40:43]+one[43:], "", api.ErrAuth)
	refuseRead(t, "the tag of another", s, one[:43]+next[43:], "", api.ErrAuth)
	refuseRead(t, "the tag of another text", s, one[:43]+other[43:], "", api.ErrAuth)
	refuseRead(t, "a tag of noughts", s, one[:43]+same(0), "", api.ErrAuth)
	// data and head are not parted elsewhere
	front := sealed(keyAt(m.reading, 0), "RM", m.theirs, 7, 30, "one")
	refuseRead(t, "data that begins as a head", s, front, "", api.ErrAuth)
	reads(t, "the message", s, one, "", "one")
}

// Each number of the head at its bound and one above it.
func TestReadNumbers(t *testing.T) {
	for _, c := range []struct {
		nr, number int
		want       api.Errno
	}{
		{279, 299, api.OK}, {280, 299, api.OK}, {298, 299, api.OK}, {299, 299, api.OK}, {300, 299, api.ErrOld},
		{278, 299, api.ErrSkip}, {255, 256, api.OK}, {256, 255, api.ErrOld}, {44, 44, api.OK}, {299, 43, api.ErrOld},
		{280, 300, api.ErrSyntax}, {299, 300, api.ErrSyntax}, {300, 300, api.ErrSyntax}, {300, 301, api.ErrSyntax},
		{299, 512, api.ErrSyntax}, {299, 65535, api.ErrSyntax}, {299, 299 * 256, api.ErrSyntax},
	} {
		m := talking()
		m.nr = c.nr
		text := ""
		if c.want == api.OK {
			text = "text"
		}
		checkRead(t, "a number", m, m.nextMessage(c.number, "", "text"), "", text, c.want)
		if c.want == api.OK && m.nr != c.number+1 {
			t.Errorf("P8: number %d: Nr is %d", c.number, m.nr)
		}
	}
	for _, ahead := range []int{299, 300, 301, 511, 512, 0x2c01, 65535} {
		want, text := api.OK, "text"
		if ahead > 300 {
			want, text = api.ErrSyntax, ""
		}
		for _, m := range []*model{talking(), {root: same(5), self: same(2), draws: []string{same(3)}}} {
			m.nr = 290
			checkRead(t, "ahead", m, m.newMessage(same(9), ahead, 0, "", "text"), "", text, want)
		}
		// 'ahead' does not count but with a new point; it must be a message all the same
		m := talking()
		message := sealed(m.kept[0].key, "", m.kept[0].point, ahead, m.kept[0].number, "text")
		checkRead(t, "ahead with a kept key", m, message, "", text, want)
		m = talking()
		checkRead(t, "ahead with their point", m, sealed(keyAt(m.reading, 0), "", m.theirs, ahead, 30, "text"), "", text, want)
	}
}

func TestReadBent(t *testing.T) {
	r := rand.New(rand.NewSource(23))
	for i := 0; i < 300; i++ {
		m := randomModel(r)
		message := bend(r, m.randomMessage(r, "data"))
		checkAsModel(t, "a bent message", imported(t, m.bytes()), m, message, "data")
	}
}

// Of many states and messages the answers are the model's, and so is the state.
func TestReadAsModel(t *testing.T) {
	r := rand.New(rand.NewSource(24))
	var seen [11]int
	for i := 0; i < 700; i++ {
		m := randomModel(r)
		if r.Intn(2) == 0 {
			m.past = m.past[:min(len(m.past), 20)]
		}
		s := imported(t, m.bytes())
		for n := 0; n < 3; n++ {
			data := randomText(r, []int{0, r.Intn(100), 100}[r.Intn(3)])
			message := m.randomMessage(r, data)
			if r.Intn(20) == 0 {
				data += "!"
			}
			_, e := checkAsModel(t, "a random message", s, m, message, data)
			seen[e]++
			if e == api.OK {
				_, e = checkAsModel(t, "a random message again", s, m, message, data)
				if e == api.OK {
					t.Errorf("P8: %x is read twice", message)
				}
			}
		}
	}
	for _, e := range []api.Errno{api.OK, api.ErrLong, api.ErrSyntax, api.ErrOld, api.ErrSkip, api.ErrFull, api.ErrDraw, api.ErrAuth} {
		if seen[e] == 0 {
			t.Errorf("no random message was answered with %d", e)
		}
	}
}

func TestReadNoSession(t *testing.T) {
	var none *session.Session
	for _, c := range []struct {
		message, data string
		want          api.Errno
	}{
		{"x", strings.Repeat("d", 101), api.ErrLong}, {"x", "", api.ErrSyntax}, {unhex(t, helloMessage), "", api.ErrDraw},
	} {
		if text, e := none.Read(c.message, c.data); text != "" || e != c.want {
			t.Errorf("P1: Read without a session: %x, %d, want %d", text, e, c.want)
		}
	}
	var empty session.Session
	if text, e := empty.Read(unhex(t, helloMessage), ""); text != "" || e != api.ErrDraw {
		t.Errorf("P1: Read of an empty session: %x, %d", text, e)
	}
	empty.Lay(same(3))
	if text, e := empty.Read(unhex(t, helloMessage), ""); text != "" || e != api.ErrAuth {
		t.Errorf("P1: Read of an empty session with a draw: %x, %d", text, e)
	}
}
