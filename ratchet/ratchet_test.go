package ratchet

import (
	"crypto/hkdf"
	"crypto/hmac"
	"crypto/sha256"
	"encoding/binary"
	"math/rand"
	"strings"
	"testing"

	"messenger/stream"
)

func mac(key string, text string) string {
	h := hmac.New(sha256.New, []byte(key))
	h.Write([]byte(text))
	return string(h.Sum(nil))
}

func derived(t *testing.T, salt string, text string, purpose string, n int) string {
	t.Helper()
	b, err := hkdf.Key(sha256.New, []byte(text), []byte(salt), purpose, n)
	if err != nil {
		t.Fatal(err)
	}
	return string(b)
}

func randomText(r *rand.Rand, n int) string {
	b := make([]byte, n)
	r.Read(b)
	return string(b)
}

func TestRoot(t *testing.T) {
	r := rand.New(rand.NewSource(1))
	for i := 0; i < 50; i++ {
		root := randomText(r, 32)
		shared := randomText(r, 32)
		next, chain := Root(root, shared)
		if len(next) != 32 || next+chain != derived(t, root, shared, "root", 64) {
			t.Errorf("ROOT(%x, %x) = %x, %x", root, shared, next, chain)
		}
	}
}

func TestChain(t *testing.T) {
	r := rand.New(rand.NewSource(2))
	for i := 0; i < 50; i++ {
		chain := randomText(r, 32)
		if key := MessageKey(chain); key != mac(chain, "\x01") {
			t.Errorf("the key of the chain %x: %x", chain, key)
		}
		if behind := Behind(chain); behind != mac(chain, "\x02") {
			t.Errorf("the chain behind %x: %x", chain, behind)
		}
	}
}

// A 'with' of 256 bytes and more shows the order of its length's bytes.
func TestSeal(t *testing.T) {
	r := rand.New(rand.NewSource(3))
	for _, length := range []int{0, 1, 38, 138, 255, 256, 258, 65536} {
		for _, n := range []int{0, 1, 5, 64, 65, 200} {
			key := randomText(r, 32)
			with := randomText(r, length)
			text := randomText(r, n)
			keys := derived(t, "", key, "message keys", 76)
			wantTurned := stream.Turn(keys[:32], keys[64:], text)
			front := binary.BigEndian.AppendUint32(nil, uint32(length))
			wantTag := mac(keys[32:64], string(front)+with+wantTurned)
			turned, tag := Seal(key, with, text)
			if turned != wantTurned || tag != wantTag {
				t.Errorf("SEAL with %d bytes of %d bytes: %x, %x", length, n, turned, tag)
			}
		}
	}
}

func TestOpen(t *testing.T) {
	r := rand.New(rand.NewSource(4))
	for _, length := range []int{0, 1, 38, 138} {
		for _, n := range []int{0, 1, 5, 64, 65, 200} {
			key, with, text := randomText(r, 32), randomText(r, length), randomText(r, n)
			turned, tag := Seal(key, with, text)
			if opened, fine := Open(key, with, turned, tag); !fine || opened != text {
				t.Errorf("with %d bytes, %d bytes opened: %x, %v, want %x", length, n, opened, fine, text)
			}
			other := randomText(r, 32)
			refuseOpen(t, "another key", other, with, turned, tag)
			refuseOpen(t, "another tag", key, with, turned, other)
			refuseOpen(t, "a byte more with it", key, with+"x", turned, tag)
			refuseOpen(t, "a byte more of text", key, with, turned+"x", tag)
			if n > 0 {
				refuseOpen(t, "a byte exchanged between both", key, with+turned[:1], turned[1:], tag)
			}
		}
	}
}

func refuseOpen(t *testing.T, what string, key string, with string, turned string, tag string) {
	t.Helper()
	if text, fine := Open(key, with, turned, tag); fine || text != "" {
		t.Errorf("%s: %x, %v", what, text, fine)
	}
}

// Every bit of a tag counts, and its length.
func TestOpenTag(t *testing.T) {
	key := strings.Repeat("k", 32)
	turned, tag := Seal(key, "with", "text")
	for bit := 0; bit < 8*len(tag); bit++ {
		other := []byte(tag)
		other[bit/8] ^= 1 << (bit % 8)
		refuseOpen(t, "a bit of the tag turned", key, "with", turned, string(other))
	}
	for n := 0; n < len(tag); n++ {
		refuseOpen(t, "a short tag", key, "with", turned, tag[:n])
		refuseOpen(t, "a short tag", key, "with", turned, tag[len(tag)-n:])
	}
	refuseOpen(t, "a long tag", key, "with", turned, tag+"\x00")
	refuseOpen(t, "a tag twice", key, "with", turned, tag+tag)
}

func TestCut(t *testing.T) {
	for _, c := range []struct {
		text  string
		n     int
		front string
		back  string
	}{
		{"abc", 0, "", "abc"}, {"abc", 1, "a", "bc"}, {"abc", 3, "abc", ""},
		{"abc", 4, "abc", ""}, {"abc", -1, "abc", ""}, {"", 0, "", ""}, {"", 32, "", ""},
	} {
		front, back := cut(c.text, c.n)
		if front != c.front || back != c.back {
			t.Errorf("%q cut behind %d: %q, %q", c.text, c.n, front, back)
		}
	}
	long := strings.Repeat("x", 64)
	front, back := cut(long, 32)
	if len(front) != 32 || len(back) != 32 {
		t.Errorf("64 bytes cut behind 32: %d, %d", len(front), len(back))
	}
}
