package session

import "messenger/api"

// Export: the session as bytes; the empty text where there is no session.
func (s *Session) Export() string {
	if s == nil {
		return ""
	}
	text := stateMark + s.root + s.self
	text += maybeText(s.theirs)
	text += maybeText(s.sending)
	text += maybeText(s.reading)
	text += u16(s.sent) + u16(s.next) + u16(s.ahead)
	text += keptText(s.kept)
	text += listText(s.past)
	text += listText(s.draws)
	return text
}

// Import: the session of bytes. ErrSyntax.
func Import(s string) (*Session, api.Errno) {
	r := &reader{rest: s}
	read := r.session()
	if r.bad || r.rest != "" {
		return nil, api.ErrSyntax
	}
	if read.reading != "" && read.theirs == "" {
		return nil, api.ErrSyntax
	}
	return read, api.OK
}

func maybeText(text string) string {
	if text == "" {
		return oneByte(0)
	}
	return oneByte(1) + text
}

func keptText(list []keptKey) string {
	text := oneByte(len(list))
	for i := 0; i < len(list); i++ {
		text += list[i].point + u16(list[i].number) + list[i].key
	}
	return text
}

func listText(list []string) string {
	text := oneByte(len(list))
	for i := 0; i < len(list); i++ {
		text += list[i]
	}
	return text
}

func (r *reader) session() *Session {
	s := &Session{}
	r.mark(stateMark)
	s.root = r.key()
	s.self = r.key()
	s.theirs = r.maybeKey()
	s.sending = r.maybeKey()
	s.reading = r.maybeKey()
	s.sent = r.u16(api.MaxCount)
	s.next = r.u16(api.MaxCount)
	s.ahead = r.u16(api.MaxCount)
	s.kept = r.keptKeys()
	s.past = r.list(api.MaxPast)
	s.draws = r.list(api.MaxDraws)
	return s
}

func (r *reader) maybeKey() string {
	there := r.oneByte(1)
	if there == 0 {
		return ""
	}
	return r.key()
}

func (r *reader) keptKeys() []keptKey {
	var list []keptKey
	count := r.oneByte(api.MaxStore)
	for i := 0; i < count; i++ {
		var kept keptKey
		kept.point = r.key()
		kept.number = r.u16(maxNumber)
		kept.key = r.key()
		list = append(list, kept)
	}
	return list
}

func (r *reader) list(most int) []string {
	var list []string
	count := r.oneByte(most)
	for i := 0; i < count; i++ {
		text := r.key()
		list = append(list, text)
	}
	return list
}
