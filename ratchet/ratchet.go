// Package ratchet: how keys are turned on, and how a text is sealed by one and
// opened again: see DOC.md, 'The parts'.
package ratchet

import (
	"messenger/api"
	"messenger/digest"
	"messenger/octets"
	"messenger/stream"
)

const (
	rootPurpose = "root"
	sealPurpose = "message keys"
	noSalt      = ""
)

// Root is ROOT: the next root, and a chain.
func Root(root string, shared string) (string, string) {
	both := digest.Derive(root, shared, rootPurpose, 2*api.Key)
	return cut(both, api.Key)
}

// MessageKey is the key that a chain has for its next message.
func MessageKey(chain string) string {
	return digest.Mac(chain, "\x01")
}

// Behind is the chain behind that message.
func Behind(chain string) string {
	return digest.Mac(chain, "\x02")
}

// sealKeys: what SEAL makes of a message's key.
type sealKeys struct {
	stream string
	tag    string
	nonce  string
}

// Seal is SEAL: the turned text, and the tag.
func Seal(key string, with string, text string) (string, string) {
	keys := sealKeysOf(key)
	turned := stream.Turn(keys.stream, keys.nonce, text)
	tag := keys.tagOf(with, turned)
	return turned, tag
}

// Open is the way back: the text, if the tag is SEAL's.
func Open(key string, with string, turned string, tag string) (string, bool) {
	keys := sealKeysOf(key)
	want := keys.tagOf(with, turned)
	if !alike(tag, want) {
		return "", false
	}
	return stream.Turn(keys.stream, keys.nonce, turned), true
}

func sealKeysOf(key string) sealKeys {
	all := digest.Derive(noSalt, key, sealPurpose, 2*api.Key+api.Nonce)
	streamKey, rest := cut(all, api.Key)
	tagKey, nonce := cut(rest, api.Key)
	return sealKeys{stream: streamKey, tag: tagKey, nonce: nonce}
}

func (k sealKeys) tagOf(with string, turned string) string {
	length := octets.Text(uint32(len(with)), 4)
	return digest.Mac(k.tag, length+with+turned)
}

// alike looks at every byte, so that the time it takes does not tell how much
// of a tag is right.
func alike(a string, b string) bool {
	if len(a) != len(b) {
		return false
	}
	var bits byte
	for i := 0; i < len(a); i++ {
		bits |= a[i] ^ b[i]
	}
	return bits == 0
}

// cut parts a text behind its first n bytes; a shorter one stays whole.
func cut(text string, n int) (string, string) {
	if n < 0 || n > len(text) {
		return text, ""
	}
	return text[:n], text[n:]
}
