// Package session: one side of a talk: see DOC.md.
package session

import (
	"messenger/api"
	"messenger/curve"
)

// Session: one side of a talk.
type Session struct{}

// Start: the side that sends first: a secret that both have, the other side's point, an own key. ErrArg; ErrZero.
func Start(secret string, theirs string, self string) (*Session, api.Errno) { return nil, 0 }

// Wait: the side that reads first: the secret, the own key whose point the other side has. ErrArg.
func Wait(secret string, self string) (*Session, api.Errno) { return nil, 0 }

// Public: the point of a key. ErrArg.
func Public(key string) (string, api.Errno) {
	if len(key) != api.Key {
		return "", api.ErrArg
	}
	return curve.Point(key), api.OK
}

// Lay: a draw more, for a key to come. ErrArg; ErrFull.
func (s *Session) Lay(draw string) api.Errno { return 0 }

// Send: a text and what goes with it as a message. ErrLong; ErrChain; ErrFull.
func (s *Session) Send(text string, data string) (string, api.Errno) { return "", 0 }

// Read: a message's text. ErrLong (what goes with it); ErrSyntax; ErrOld; ErrSkip; ErrFull; ErrDraw; ErrZero; ErrAuth: then nothing has changed.
func (s *Session) Read(message string, data string) (string, api.Errno) { return "", 0 }

// Export: the session as bytes. Import: the session of bytes. ErrSyntax.
func (s *Session) Export() string { return "" }

func Import(s string) (*Session, api.Errno) { return nil, 0 }
