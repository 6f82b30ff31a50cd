// Package session: one side of a talk: see DOC.md.
package session

import (
	"messenger/api"
	"messenger/curve"
	"messenger/ratchet"
)

// Session: one side of a talk. A point or a chain that is missing is the empty
// text. A list is never changed where it lies, so that a copy of a session
// stands by itself.
type Session struct {
	root    string
	self    string
	theirs  string
	sending string
	reading string
	sent    int // the document's Ns
	next    int // its Nr
	ahead   int // its Pn
	kept    []keptKey
	past    []string
	draws   []string
}

// Start: the side that sends first: a secret that both have, the other side's point, an own key. ErrArg; ErrZero.
func Start(secret string, theirs string, self string) (*Session, api.Errno) {
	if len(secret) != api.Key || len(theirs) != api.Key || len(self) != api.Key {
		return nil, api.ErrArg
	}
	shared := curve.Shared(self, theirs)
	if allNoughts(shared) {
		return nil, api.ErrZero
	}
	root, sending := ratchet.Root(secret, shared)
	return &Session{root: root, self: self, theirs: theirs, sending: sending}, api.OK
}

// Wait: the side that reads first: the secret, the own key whose point the other side has. ErrArg.
func Wait(secret string, self string) (*Session, api.Errno) {
	if len(secret) != api.Key || len(self) != api.Key {
		return nil, api.ErrArg
	}
	return &Session{root: secret, self: self}, api.OK
}

// Public: the point of a key. ErrArg.
func Public(key string) (string, api.Errno) {
	if len(key) != api.Key {
		return "", api.ErrArg
	}
	return curve.Point(key), api.OK
}

// Lay: a draw more, for a key to come. ErrArg (also where there is no session); ErrFull.
func (s *Session) Lay(draw string) api.Errno {
	if s == nil || len(draw) != api.Key {
		return api.ErrArg
	}
	if len(s.draws) >= api.MaxDraws {
		return api.ErrFull
	}
	s.draws = joined(s.draws, draw)
	return api.OK
}

// Send: a text and what goes with it as a message. ErrLong; ErrChain (also where there is no session); ErrFull.
func (s *Session) Send(text string, data string) (string, api.Errno) {
	if len(text) > api.MaxText || len(data) > api.MaxData {
		return "", api.ErrLong
	}
	if s == nil || s.sending == "" {
		return "", api.ErrChain
	}
	if s.sent >= api.MaxCount {
		return "", api.ErrFull
	}
	point := curve.Point(s.self)
	front := head(point, s.ahead, s.sent)
	key := ratchet.MessageKey(s.sending)
	turned, tag := ratchet.Seal(key, data+front, text)
	s.sending = ratchet.Behind(s.sending)
	s.sent++
	return front + u16(len(turned)) + turned + tag, api.OK
}

// allNoughts looks at every byte, so that the time it takes does not tell a
// secret.
func allNoughts(text string) bool {
	var bits byte
	for i := 0; i < len(text); i++ {
		bits |= text[i]
	}
	return bits == 0
}
