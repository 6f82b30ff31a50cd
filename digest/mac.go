package digest

import "messenger/octets"

const (
	inner = 0x36
	outer = 0x5c
)

// Mac is HMAC.
func Mac(key string, text string) string {
	if len(key) > block {
		key = Sum(key)
	}
	inside := Sum(veiled(key, inner) + text)
	return Sum(veiled(key, outer) + inside)
}

// veiled fills a key up to a block, and turns every byte of it with veil.
func veiled(key string, veil byte) string {
	var b [block]byte
	for i := 0; i < block; i++ {
		b[i] = veil
	}
	for i := 0; i < block && i < len(key); i++ {
		b[i] ^= key[i]
	}
	return string(b[:])
}

// Derive is HKDF: n bytes, at most 255 digests, since one byte counts them.
func Derive(salt string, text string, purpose string, n int) string {
	if n < 0 {
		return ""
	}
	key := Mac(salt, text)
	all := ""
	last := ""
	for count := uint32(1); len(all) < n; count++ {
		last = Mac(key, last+purpose+octets.Text(count, 1))
		all += last
	}
	return all[:n]
}
