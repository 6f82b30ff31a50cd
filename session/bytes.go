package session

import (
	"messenger/api"
	"messenger/octets"
)

const (
	messageMark = "RM"
	stateMark   = "RS"
	u16Bytes    = 2
)

func u16(n int) string {
	return octets.Text(uint32(n), u16Bytes)
}

func oneByte(n int) string {
	return octets.Text(uint32(n), 1)
}

func head(point string, ahead int, number int) string {
	return messageMark + point + u16(ahead) + u16(number)
}

// reader goes through bytes from their front. Once something is amiss it stays
// bad, and what it answers is empty or 0: it is enough to test it at the end.
type reader struct {
	rest string
	bad  bool
}

func (r *reader) take(n int) string {
	if r.bad || n < 0 || n > len(r.rest) {
		r.bad = true
		return ""
	}
	taken := r.rest[:n]
	r.rest = r.rest[n:]
	return taken
}

func (r *reader) mark(want string) {
	taken := r.take(len(want))
	if taken != want {
		r.bad = true
	}
}

func (r *reader) number(size int, most int) int {
	taken := r.take(size)
	n := octets.Number(taken)
	if n > uint32(most) {
		r.bad = true
		return 0
	}
	return int(n)
}

func (r *reader) u16(most int) int {
	return r.number(u16Bytes, most)
}

func (r *reader) oneByte(most int) int {
	return r.number(1, most)
}

func (r *reader) key() string {
	return r.take(api.Key)
}
