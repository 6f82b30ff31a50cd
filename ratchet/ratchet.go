// Package ratchet: how keys are turned on, and how a text is sealed by one:
// see DOC.md, 'The parts'.
package ratchet

import (
	"messenger/api"
	"messenger/digest"
	"messenger/octets"
	"messenger/stream"
)

const (
	rootPurpose = "root"
	sealPurpose = "message keys"
	noSalt      = ""
)

// Root is ROOT: the next root, and a chain.
func Root(root string, shared string) (string, string) {
	both := digest.Derive(root, shared, rootPurpose, 2*api.Key)
	return cut(both, api.Key)
}

// MessageKey is the key that a chain has for its next message.
func MessageKey(chain string) string {
	return digest.Mac(chain, "\x01")
}

// Behind is the chain behind that message.
func Behind(chain string) string {
	return digest.Mac(chain, "\x02")
}

// Seal is SEAL: the turned text, and the tag.
func Seal(key string, with string, text string) (string, string) {
	keys := digest.Derive(noSalt, key, sealPurpose, 2*api.Key+api.Nonce)
	streamKey, rest := cut(keys, api.Key)
	tagKey, nonce := cut(rest, api.Key)
	turned := stream.Turn(streamKey, nonce, text)
	length := octets.Text(uint32(len(with)), 4)
	tag := digest.Mac(tagKey, length+with+turned)
	return turned, tag
}

// cut parts a text behind its first n bytes; a shorter one stays whole.
func cut(text string, n int) (string, string) {
	if n < 0 || n > len(text) {
		return text, ""
	}
	return text[:n], text[n:]
}
