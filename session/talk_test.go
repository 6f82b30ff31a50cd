package session_test

import (
	"fmt"
	"math/rand"
	"testing"

	"messenger/api"
	"messenger/session"
)

// talk: two sides, their models, and what they have sent each other.
type talk struct {
	sides  [2]*session.Session
	models [2]*model
	r      *rand.Rand
	sent   []letter
}

type letter struct {
	to                  int
	message, data, text string
	was                 bool
}

func newTalk(t *testing.T, seed int64) *talk {
	r := rand.New(rand.NewSource(seed))
	secret, one, two := randomText(r, 32), randomText(r, 32), randomText(r, 32)
	return &talk{
		sides:  [2]*session.Session{start(t, secret, wantPoint(t, two), one), wait(t, secret, two)},
		models: [2]*model{modelStart(secret, wantPoint(t, two), one), {root: secret, self: two}},
		r:      r,
	}
}

// send answers whether the side could.
func (k *talk) send(t *testing.T, side int) bool {
	t.Helper()
	text := fmt.Sprintf("%d: %s", len(k.sent), randomText(k.r, k.r.Intn(100)))
	if k.r.Intn(5) == 0 {
		text = ""
	}
	data := randomText(k.r, k.r.Intn(101))
	message, e := k.sides[side].Send(text, data)
	want, wantE := k.models[side].send(t, text, data)
	if message != want || e != wantE {
		t.Errorf("P7: Send = %x, %d, want %x, %d", message, e, want, wantE)
	}
	if e == api.OK {
		k.sent = append(k.sent, letter{to: 1 - side, message: message, data: data, text: text})
	}
	return e == api.OK
}

func (k *talk) lay(side int) {
	draw := randomText(k.r, 32)
	k.sides[side].Lay(draw)
	k.models[side].lay(draw)
}

// deliver reads a letter, and answers what Read answered.
func (k *talk) deliver(t *testing.T, at int) (string, api.Errno) {
	t.Helper()
	k.lay(k.sent[at].to)
	l := k.sent[at]
	return checkAsModel(t, "a talk", k.sides[l.to], k.models[l.to], l.message, l.data)
}

// comes is P9: the first time a letter is read, then it is old.
func (k *talk) comes(t *testing.T, at int) {
	t.Helper()
	l := k.sent[at]
	text, e := k.deliver(t, at)
	if !l.was && (text != l.text || e != api.OK) {
		t.Errorf("P9: letter %d of %d: %x, %d, want %x", at, len(k.sent), text, e, l.text)
	}
	if l.was && (text != "" || e != api.ErrOld) {
		t.Errorf("P9: letter %d of %d again: %x, %d, want ErrOld", at, len(k.sent), text, e)
	}
	k.sent[at].was = true
}

// bent tries a letter with a bit of its text or tag turned, or with other data.
func (k *talk) bent(t *testing.T, at int) {
	t.Helper()
	l := k.sent[at]
	message, data := []byte(l.message), l.data
	if k.r.Intn(3) == 0 {
		data = randomText(k.r, k.r.Intn(101))
	} else {
		bit := 40*8 + k.r.Intn(8*(len(message)-40))
		message[bit/8] ^= 1 << (bit % 8)
	}
	if string(message) == l.message && data == l.data {
		return
	}
	was := k.sides[l.to].Export()
	text, e := k.sides[l.to].Read(string(message), data)
	if text != "" || e == api.OK {
		t.Errorf("P9: a bent letter is read: %x, %d", text, e)
	}
	checkState(t, "P1: behind a bent letter", k.sides[l.to], was)
}

// any is a letter by chance: often a late one.
func (k *talk) any() int { return k.r.Intn(len(k.sent)) }

// Twenty messages in all: letters are sent, lost for a while, late, doubled,
// bent, by chance; in the end all that are missing come.
func TestTwentyMessages(t *testing.T) {
	turns := 0
	for seed := int64(0); seed < 60; seed++ {
		k := newTalk(t, seed)
		eager := 1 + k.r.Intn(6)
		for len(k.sent) < 20 {
			if !k.send(t, k.r.Intn(2)) {
				continue
			}
			for n := k.r.Intn(eager); n > 0; n-- {
				k.bent(t, k.any())
				k.comes(t, k.any())
			}
			if k.r.Intn(3) == 0 {
				at := k.r.Intn(2)
				k.sides[at] = imported(t, k.sides[at].Export())
			}
			if len(k.sent) > 10 && k.models[1].sending == "" {
				k.comes(t, k.any())
			}
		}
		turns += len(k.models[0].past) + len(k.models[1].past)
		for _, at := range k.r.Perm(len(k.sent)) {
			k.comes(t, at)
			k.bent(t, k.any())
		}
		for _, at := range k.r.Perm(len(k.sent)) {
			k.comes(t, at)
		}
	}
	if turns < 120 {
		t.Errorf("the talks had %d turns alone", turns)
	}
}

// Twenty messages of one side, the last one first.
func TestTwentyBackwards(t *testing.T) {
	k := newTalk(t, 100)
	for n := 0; n < 20; n++ {
		k.send(t, 0)
	}
	for at := 19; at >= 0; at-- {
		k.comes(t, at)
		k.comes(t, at)
	}
	if len(k.models[1].kept) != 0 {
		t.Errorf("P9: %d keys are kept", len(k.models[1].kept))
	}
}

// Each side's letters but the newest wait until the end of the talk: the keys
// of many chains are kept.
func TestTwentyOfManyChains(t *testing.T) {
	for _, a := range []int{1, 2, 3, 4} {
		k := newTalk(t, 101)
		side := 0
		for len(k.sent) < 20 {
			for n := 0; n < a && len(k.sent) < 20; n++ {
				k.send(t, side)
			}
			k.comes(t, len(k.sent)-1)
			side = 1 - side
		}
		for at := range k.sent {
			k.comes(t, at)
		}
		for at := range k.sent {
			if !k.sent[at].was {
				t.Errorf("P9: letter %d never came", at)
			}
			k.comes(t, at)
		}
	}
}

// More than twenty messages: some are not read, and which is as P8 has it.
func TestLongTalks(t *testing.T) {
	var seen [11]int
	for seed := int64(200); seed < 206; seed++ {
		k := newTalk(t, seed)
		burst := []int{3, 12, 30}[seed%3]
		for turn := 0; turn < 24; turn++ {
			side := turn % 2
			for n := 1 + k.r.Intn(burst); n > 0; n-- {
				k.send(t, side)
			}
			for n := 0; n < 3; n++ {
				at := k.any()
				if n == 0 {
					at = len(k.sent) - 1
				}
				_, e := k.deliver(t, at)
				seen[e]++
			}
		}
	}
	if seen[api.OK] < 60 || seen[api.ErrSkip] == 0 || seen[api.ErrOld] == 0 {
		t.Errorf("the long talks were answered %v", seen)
	}
}

// Each turn takes a point: the side that began takes MaxPast new ones, the
// other one more, since it knew none.
func TestTalkToTheEnd(t *testing.T) {
	k := newTalk(t, 300)
	var turns [2]int
	for side := 0; ; side = 1 - side {
		k.send(t, side)
		text, e := k.deliver(t, len(k.sent)-1)
		if e != api.OK {
			refuseRead(t, "the same again", k.sides[1-side], k.sent[len(k.sent)-1].message, k.sent[len(k.sent)-1].data, api.ErrFull)
			break
		}
		if text != k.sent[len(k.sent)-1].text || turns[0]+turns[1] > 60 {
			t.Fatalf("P8: turn %v: %x", turns, text)
		}
		turns[1-side]++
	}
	if turns != [2]int{24, 25} {
		t.Errorf("P8: the sides took %v points", turns)
	}
	// the other side goes on with the chain it has
	k.send(t, 0)
	if text, e := k.deliver(t, len(k.sent)-1); e != api.OK || text != k.sent[len(k.sent)-1].text {
		t.Errorf("P8: behind the end: %x, %d", text, e)
	}
}

// A chain to its end: number 299 is read, behind it only a new point helps.
func TestTalkOfWholeChain(t *testing.T) {
	k := newTalk(t, 301)
	for n := 0; n < api.MaxCount; n++ {
		k.send(t, 0)
		if n%21 == 20 || n == 299 {
			k.comes(t, n)
		}
	}
	if k.send(t, 0) || k.models[1].nr != 300 {
		t.Errorf("P7, P8: the chain is not at its end: Nr %d", k.models[1].nr)
	}
	k.comes(t, 299)
	k.send(t, 1)
	k.comes(t, 300)
	k.send(t, 0)
	k.comes(t, 301)
	if ahead := numberAt(k.sent[301].message, 34); ahead != 300 {
		t.Errorf("P7: ahead is %d", ahead)
	}
}

// Both send at once, and their letters cross.
func TestTalkCrossed(t *testing.T) {
	k := newTalk(t, 302)
	k.send(t, 0)
	k.comes(t, 0)
	for round := 0; round < 5; round++ {
		from := len(k.sent)
		for n := 0; n < 2; n++ {
			k.send(t, 0)
			k.send(t, 1)
		}
		for _, at := range []int{from + 3, from, from + 2, from + 1, from} {
			k.comes(t, at)
		}
	}
}
