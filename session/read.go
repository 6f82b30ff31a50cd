package session

import (
	"messenger/api"
	"messenger/curve"
	"messenger/ratchet"
)

// Read: a message's text. ErrLong (what goes with it); ErrSyntax; ErrOld; ErrSkip; ErrFull; ErrDraw (also where there is no session); ErrZero; ErrAuth: then nothing has changed.
func (s *Session) Read(message string, data string) (string, api.Errno) {
	if len(data) > api.MaxData {
		return "", api.ErrLong
	}
	m, fine := messageOf(message)
	if !fine {
		return "", api.ErrSyntax
	}
	if s == nil {
		return "", api.ErrDraw
	}
	// whether the tag is right shows only behind most of the changes: they are
	// made to a copy
	after := *s
	with := data + head(m.point, m.ahead, m.number)
	text, e := after.read(m, with)
	if e != api.OK {
		return "", e
	}
	*s = after
	return text, api.OK
}

// read leaves the session half changed where it answers an error.
func (s *Session) read(m parts, with string) (string, api.Errno) {
	key, others := keptFor(s.kept, m.point, m.number)
	if key != "" {
		s.kept = others
		return opened(key, m, with)
	}
	if m.point == s.theirs {
		return s.readOn(m, with)
	}
	if has(s.past, m.point) {
		return "", api.ErrOld
	}
	return s.readNew(m, with)
}

func opened(key string, m parts, with string) (string, api.Errno) {
	text, fine := ratchet.Open(key, with, m.turned, m.tag)
	if !fine {
		return "", api.ErrAuth
	}
	return text, api.OK
}

// readOn reads a message of the other side's point.
func (s *Session) readOn(m parts, with string) (string, api.Errno) {
	if s.reading == "" || m.number < s.next {
		return "", api.ErrOld
	}
	if m.number > s.next+api.MaxSkip {
		return "", api.ErrSkip
	}
	return s.readInChain(m, with)
}

// readNew reads a message of a point that neither is the other side's nor has
// been.
func (s *Session) readNew(m parts, with string) (string, api.Errno) {
	if s.reading != "" && m.ahead > s.next+api.MaxSkip {
		return "", api.ErrSkip
	}
	if m.number > api.MaxSkip {
		return "", api.ErrSkip
	}
	if s.theirs != "" && len(s.past) >= api.MaxPast {
		return "", api.ErrFull
	}
	if len(s.draws) == 0 {
		return "", api.ErrDraw
	}
	shared := curve.Shared(s.self, m.point)
	if allNoughts(shared) {
		return "", api.ErrZero
	}
	s.turnReading(m, shared)
	text, e := s.readInChain(m, with)
	if e != api.OK {
		return "", e
	}
	s.turnSending()
	return text, api.OK
}

// readInChain reads a message that the chain of reading has yet to come to.
func (s *Session) readInChain(m parts, with string) (string, api.Errno) {
	s.keepUpTo(m.number)
	key := ratchet.MessageKey(s.reading)
	s.reading = ratchet.Behind(s.reading)
	s.next = m.number + 1
	return opened(key, m, with)
}

// turnReading begins the chain of reading of a new point. Of the chain so far,
// the keys of messages that were sent and have not come are kept.
func (s *Session) turnReading(m parts, shared string) {
	if s.reading != "" {
		s.keepUpTo(m.ahead)
	}
	if s.theirs != "" {
		s.past = joined(s.past, s.theirs)
	}
	s.theirs = m.point
	root, reading := ratchet.Root(s.root, shared)
	s.root = root
	s.reading = reading
	s.next = 0
}

// turnSending begins the chain of sending of a new own key.
func (s *Session) turnSending() {
	self, draws := parted(s.draws)
	s.self = self
	s.draws = draws
	// never 32 noughts: a point that one key does not take to 0, none does
	shared := curve.Shared(s.self, s.theirs)
	root, sending := ratchet.Root(s.root, shared)
	s.root = root
	s.sending = sending
	s.ahead = s.sent
	s.sent = 0
}

// keepUpTo turns the chain of reading on to the message of a number.
func (s *Session) keepUpTo(number int) {
	var more []keptKey
	for s.next < number {
		key := ratchet.MessageKey(s.reading)
		more = append(more, keptKey{point: s.theirs, number: s.next, key: key})
		s.reading = ratchet.Behind(s.reading)
		s.next++
	}
	s.kept = stored(s.kept, more)
}
