package session

import (
	"messenger/api"
	"messenger/octets"
)

const (
	messageMark = "RM"
	stateMark   = "RS"
	u16Bytes    = 2

	// numbers in a chain are counted from 0 on
	maxNumber = api.MaxCount - 1
)

func u16(n int) string {
	return octets.Text(uint32(n), u16Bytes)
}

func oneByte(n int) string {
	return octets.Text(uint32(n), 1)
}

func head(point string, ahead int, number int) string {
	return messageMark + point + u16(ahead) + u16(number)
}

// parts: those of a message.
type parts struct {
	point  string
	ahead  int
	number int
	turned string
	tag    string
}

// messageOf answers false where the bytes are no message.
func messageOf(text string) (parts, bool) {
	r := &reader{rest: text}
	m := r.message()
	if r.bad || r.rest != "" {
		return parts{}, false
	}
	return m, true
}

// reader goes through bytes from their front. Once something is amiss it stays
// bad, and what it answers is empty or 0: it is enough to test it at the end.
type reader struct {
	rest string
	bad  bool
}

func (r *reader) take(n int) string {
	if r.bad || n < 0 || n > len(r.rest) {
		r.bad = true
		return ""
	}
	taken := r.rest[:n]
	r.rest = r.rest[n:]
	return taken
}

func (r *reader) mark(want string) {
	taken := r.take(len(want))
	if taken != want {
		r.bad = true
	}
}

func (r *reader) number(size int, most int) int {
	taken := r.take(size)
	n := octets.Number(taken)
	if n > uint32(most) {
		r.bad = true
		return 0
	}
	return int(n)
}

func (r *reader) u16(most int) int {
	return r.number(u16Bytes, most)
}

func (r *reader) oneByte(most int) int {
	return r.number(1, most)
}

func (r *reader) key() string {
	return r.take(api.Key)
}

func (r *reader) message() parts {
	var m parts
	r.mark(messageMark)
	m.point = r.key()
	m.ahead = r.u16(api.MaxCount)
	m.number = r.u16(maxNumber)
	length := r.u16(api.MaxText)
	m.turned = r.take(length)
	m.tag = r.key()
	return m
}
