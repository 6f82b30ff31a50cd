package session_test

import (
	"math/rand"
	"slices"
	"strings"
	"testing"

	"messenger/api"
)

// answer is the text where a message is read, and empty where it is refused.
func answer(want api.Errno) string {
	if want == api.OK {
		return "text"
	}
	return ""
}

// A number MaxSkip above Nr and one more, in the chain of reading.
func TestReadSkip(t *testing.T) {
	for _, nr := range []int{0, 1, 5, 30, 255, 278, 279} {
		for number := max(nr-2, 0); number <= nr+23 && number < 300; number++ {
			m := talking()
			m.nr = nr
			m.kept = nil
			want := api.OK
			if number < nr {
				want = api.ErrOld
			} else if number > nr+20 {
				want = api.ErrSkip
			}
			reading := m.reading
			checkRead(t, "their chain", m, m.nextMessage(number, "", "text"), "", answer(want), want)
			if want != api.OK {
				continue
			}
			if m.nr != number+1 || len(m.kept) != number-nr || len(m.draws) != 3 || len(m.past) != 3 {
				t.Errorf("P8: Nr %d, number %d: Nr %d, %d kept, %d draws, %d been", nr, number, m.nr, len(m.kept), len(m.draws), len(m.past))
			}
			for i, k := range m.kept {
				if k != (modelKey{same(3), nr + i, keyAt(reading, i)}) {
					t.Errorf("P8: Nr %d, number %d: kept is %v", nr, number, k)
				}
			}
		}
	}
}

// A number MaxSkip and one more, of a new point, with a chain of reading and
// without.
func TestReadNewNumber(t *testing.T) {
	for _, number := range []int{0, 1, 2, 19, 20, 21, 22, 40, 51, 256, 299} {
		want := api.OK
		if number > 20 {
			want = api.ErrSkip
		}
		waiting := &model{root: same(5), self: same(2), draws: []string{same(3)}}
		started := modelStart(same(5), wantPoint(t, same(2)), same(1))
		started.draws = []string{same(3)}
		for _, m := range []*model{talking(), waiting, started} {
			m.kept = nil
			checkRead(t, "a new point's number", m, m.newMessage(same(9), 0, number, "", "text"), "", answer(want), want)
			if want == api.OK && (m.nr != number+1 || len(m.kept) != number || m.theirs != same(9)) {
				t.Errorf("P8: a new point's number %d: Nr %d, %d kept", number, m.nr, len(m.kept))
			}
		}
	}
}

// 'ahead' below Nr, at Nr, MaxSkip above it and one more.
func TestReadAhead(t *testing.T) {
	for _, nr := range []int{0, 1, 30, 279, 280, 281, 300} {
		for _, ahead := range []int{0, 1, nr - 1, nr, nr + 1, nr + 19, nr + 20, nr + 21, nr + 22, 299, 300} {
			if ahead < 0 || ahead > 300 {
				continue
			}
			m := talking()
			m.nr = nr
			m.kept = nil
			want := api.OK
			if ahead > nr+20 {
				want = api.ErrSkip
			}
			checkRead(t, "ahead", m, m.newMessage(same(9), ahead, 2, "", "text"), "", answer(want), want)
			if want != api.OK {
				continue
			}
			var points []string
			var numbers []int
			for _, k := range m.kept {
				points = append(points, k.point)
				numbers = append(numbers, k.number)
			}
			var wantNumbers []int
			var wantPoints []string
			for n := nr; n < ahead; n++ {
				wantNumbers = append(wantNumbers, n)
				wantPoints = append(wantPoints, same(3))
			}
			wantNumbers = append(wantNumbers, 0, 1)
			wantPoints = append(wantPoints, same(9), same(9))
			if !slices.Equal(numbers, wantNumbers) || !slices.Equal(points, wantPoints) {
				t.Errorf("P8: Nr %d, ahead %d: the kept keys are %v", nr, ahead, numbers)
			}
		}
	}
}

// Without a chain of reading 'ahead' does not count, and Nr neither.
func TestReadAheadWithoutChain(t *testing.T) {
	for _, theirs := range []string{"", same(3)} {
		for _, nr := range []int{0, 5, 300} {
			for _, ahead := range []int{0, 1, 20, 21, 299, 300} {
				m := talking()
				m.theirs, m.reading, m.nr, m.kept = theirs, "", nr, nil
				checkRead(t, "ahead without a chain", m, m.newMessage(same(9), ahead, 1, "", "text"), "", "text", api.OK)
				if len(m.kept) != 1 || m.kept[0].number != 0 || m.kept[0].point != same(9) || m.nr != 2 {
					t.Errorf("P8: ahead %d without a chain of reading: Nr %d, kept %v", ahead, m.nr, m.kept)
				}
			}
		}
	}
}

// What was kept, with what joins it: the last MaxStore stay.
func TestReadStore(t *testing.T) {
	r := rand.New(rand.NewSource(30))
	for _, had := range []int{0, 1, 11, 12, 13, 14, 30, 31, 32} {
		for _, more := range []int{0, 1, 2, 19, 20} {
			m := talking()
			m.kept = randomKept(r, had)
			all := slices.Clone(m.kept)
			for n := 0; n < more; n++ {
				all = append(all, modelKey{m.theirs, m.nr + n, keyAt(m.reading, n)})
			}
			all = all[max(len(all)-32, 0):]
			checkRead(t, "their chain", m, m.nextMessage(30+more, "", "text"), "", "text", api.OK)
			if !slices.Equal(m.kept, all) {
				t.Errorf("P8: %d kept and %d more: %v", had, more, m.kept)
			}
		}
	}
}

func TestReadStoreOfTwoChains(t *testing.T) {
	r := rand.New(rand.NewSource(31))
	for _, had := range []int{0, 1, 11, 12, 13, 31, 32} {
		for _, c := range [][2]int{{0, 0}, {1, 0}, {0, 1}, {1, 1}, {20, 0}, {0, 20}, {12, 20}, {13, 20}, {20, 20}} {
			m := talking()
			m.kept = randomKept(r, had)
			all := slices.Clone(m.kept)
			for n := 0; n < c[0]; n++ {
				all = append(all, modelKey{m.theirs, m.nr + n, keyAt(m.reading, n)})
			}
			_, chain := m.turned(same(9))
			for n := 0; n < c[1]; n++ {
				all = append(all, modelKey{same(9), n, keyAt(chain, n)})
			}
			all = all[max(len(all)-32, 0):]
			checkRead(t, "a new point", m, m.newMessage(same(9), 30+c[0], c[1], "", "text"), "", "text", api.OK)
			if !slices.Equal(m.kept, all) {
				t.Errorf("P8: %d kept, %d and %d more: %v", had, c[0], c[1], m.kept)
			}
		}
	}
}

// Where the keys of a message are many, an error leaves those that were kept.
func TestReadStoreBehindError(t *testing.T) {
	r := rand.New(rand.NewSource(32))
	m := talking()
	m.kept = randomKept(r, 32)
	s := imported(t, m.bytes())
	for _, message := range []string{m.nextMessage(50, "x", "text"), m.newMessage(same(9), 50, 20, "x", "text")} {
		refuseRead(t, "other data", s, message, "", api.ErrAuth)
	}
	for at := range m.kept {
		reads(t, "a kept key", s, m.keptMessage(at, "", "text"), "", "text")
	}
}

func TestReadPast(t *testing.T) {
	r := rand.New(rand.NewSource(33))
	for _, been := range []int{0, 1, 22, 23, 24} {
		for _, parts := range []string{"their point and a chain", "their point", "neither"} {
			m := talking()
			m.kept = nil
			m.past = randomList(r, been)
			if parts != "their point and a chain" {
				m.reading = ""
			}
			wantPast := append(slices.Clone(m.past), m.theirs)
			if parts == "neither" {
				m.theirs = ""
				wantPast = m.past
			}
			want := api.OK
			if been == 24 && m.theirs != "" {
				want = api.ErrFull
				wantPast = m.past
			}
			checkRead(t, parts, m, m.newMessage(same(9), 0, 0, "", "text"), "", answer(want), want)
			if !slices.Equal(m.past, wantPast) {
				t.Errorf("P8: %d points have been, %s: then %d", been, parts, len(m.past))
			}
		}
	}
}

// With MaxPast points all messages but those of a new one are read.
func TestReadOnAtMaxPast(t *testing.T) {
	r := rand.New(rand.NewSource(34))
	m := talking()
	m.past = randomList(r, 24)
	checkRead(t, "a new point", m, m.newMessage(same(9), 30, 0, "", "text"), "", "", api.ErrFull)
	checkRead(t, "the next one", m, m.nextMessage(33, "", "text"), "", "text", api.OK)
	for len(m.kept) > 0 {
		checkRead(t, "a kept key", m, m.keptMessage(0, "", "text"), "", "text", api.OK)
	}
}

// The first draw is the own key; the others stay, in their order.
func TestReadDraws(t *testing.T) {
	r := rand.New(rand.NewSource(35))
	for laid := 0; laid <= 8; laid++ {
		m := talking()
		m.draws = randomList(r, laid)
		draws := slices.Clone(m.draws)
		want := api.OK
		if laid == 0 {
			want = api.ErrDraw
		}
		checkRead(t, "a new point", m, m.newMessage(same(9), 30, 0, "", "text"), "", answer(want), want)
		if laid > 0 && (m.self != draws[0] || !slices.Equal(m.draws, draws[1:])) {
			t.Errorf("P8: %d draws: the own key is %x, %d are laid", laid, m.self, len(m.draws))
		}
		m = talking()
		m.draws = draws
		checkRead(t, "their point", m, m.nextMessage(31, "", "text"), "", "text", api.OK)
		checkRead(t, "a kept key", m, m.keptMessage(0, "", "text"), "", "text", api.OK)
		if m.self != same(2) || !slices.Equal(m.draws, draws) {
			t.Errorf("P8: a message without a new point took a draw: %d of %d", len(m.draws), laid)
		}
	}
}

func TestReadZero(t *testing.T) {
	for _, point := range zeroPoints(t) {
		checkRead(t, "a point that all keys take to 0", talking(), talking().newMessage(point, 30, 0, "", "text"), "", "", api.ErrZero)
		waiting := &model{root: same(5), self: same(2), draws: []string{same(3)}}
		checkRead(t, "the same, ahead of all", waiting, waiting.newMessage(point, 0, 20, "", "text"), "", "", api.ErrZero)
		// what fits first does not ask
		m := talking()
		m.theirs = point
		checkRead(t, "such a point of theirs", m, m.nextMessage(31, "", "text"), "", "text", api.OK)
		m = talking()
		m.kept[2].point = point
		checkRead(t, "such a point with a kept key", m, m.keptMessage(2, "", "text"), "", "text", api.OK)
		m = talking()
		m.past[2] = point
		checkRead(t, "such a point that has been", m, m.newMessage(point, 30, 0, "", "text"), "", "", api.ErrOld)
	}
	for _, point := range []string{"\x02" + same(0)[:31], "\xeb" + same(255)[:30] + "\x7f", same(0)[:31] + "\x01", same(255)} {
		checkRead(t, "a neighbour of such a point", talking(), talking().newMessage(point, 30, 0, "", "text"), "", "text", api.OK)
	}
}

// A point's highest bit does not count for the shared point, but such a point
// is another one.
func TestReadHighestBit(t *testing.T) {
	m := talking()
	high := []byte(m.theirs)
	high[31] |= 0x80
	checkRead(t, "their point with its highest bit", m, m.newMessage(string(high), 30, 0, "", "text"), "", "text", api.OK)
	if m.theirs != string(high) || m.past[3] != same(3) {
		t.Errorf("P8: their point is %x", m.theirs)
	}
}

func TestReadKept(t *testing.T) {
	for at := range talking().kept {
		m := talking()
		left := slices.Delete(slices.Clone(m.kept), at, at+1)
		message := m.keptMessage(at, "data", "text")
		was := talking()
		checkRead(t, "a kept key, other data", m, message, "dat", "", api.ErrAuth)
		checkRead(t, "a kept key", m, message, "data", "text", api.OK)
		if !slices.Equal(m.kept, left) {
			t.Errorf("P8: behind the key %d: %v", at, m.kept)
		}
		was.kept = left
		if m.bytes() != was.bytes() {
			t.Errorf("P8: a kept key changed more than the kept keys")
		}
	}
}

// Of keys that are alike the first one counts, and it alone.
func TestReadKeptAlike(t *testing.T) {
	m := talking()
	one, two := modelKey{same(40), 12, same(41)}, modelKey{same(40), 12, same(42)}
	m.kept = []modelKey{{same(40), 11, same(42)}, {same(39), 12, same(42)}, one, {same(3), 1, same(1)}, two, one}
	byOne, byTwo := sealed(one.key, "", same(40), 0, 12, "text"), sealed(two.key, "", same(40), 0, 12, "text")
	checkRead(t, "by the second's key", m, byTwo, "", "", api.ErrAuth)
	checkRead(t, "by the first's key", m, byOne, "", "text", api.OK)
	checkRead(t, "by the first's key again", m, byOne, "", "", api.ErrAuth)
	checkRead(t, "by the second's key, now the first", m, byTwo, "", "text", api.OK)
	checkRead(t, "by the last one", m, byOne, "", "text", api.OK)
	if len(m.kept) != 3 {
		t.Errorf("P8: %d keys are kept", len(m.kept))
	}
	// none is kept now, and the point is a new one
	checkRead(t, "by none", m, byOne, "", "", api.ErrAuth)
	m.draws = nil
	checkRead(t, "by none, without a draw", m, byOne, "", "", api.ErrDraw)
}

// A key is kept for their own point at a number that is yet to come: it fits
// first, and the chain of reading stays where it is.
func TestReadKeptAheadOfChain(t *testing.T) {
	m := talking()
	m.kept = append(m.kept, modelKey{m.theirs, 30, same(50)}, modelKey{m.theirs, 99, same(51)})
	byChain := m.nextMessage(30, "", "text")
	checkRead(t, "by the chain's key", m, byChain, "", "", api.ErrAuth)
	checkRead(t, "by the kept key", m, sealed(same(50), "", m.theirs, 0, 30, "text"), "", "text", api.OK)
	if m.nr != 30 || m.reading != same(5) {
		t.Errorf("P8: a kept key turned the chain of reading: Nr %d", m.nr)
	}
	checkRead(t, "by the chain's key, now", m, byChain, "", "text", api.OK)
	checkRead(t, "a kept key far above Nr", m, sealed(same(51), "", m.theirs, 0, 99, "text"), "", "text", api.OK)
}

// Their point also is one of those that have been: it is theirs first.
func TestReadTheirsAheadOfPast(t *testing.T) {
	m := talking()
	m.past = append(m.past, m.theirs)
	checkRead(t, "theirs, that has been", m, m.nextMessage(30, "", "text"), "", "text", api.OK)
	checkRead(t, "theirs, that has been, far on", m, m.nextMessage(52, "", "text"), "", "", api.ErrSkip)
}

// The point of a message that has been, whatever else it says.
func TestReadOfPast(t *testing.T) {
	for at := range talking().past {
		for _, number := range []int{0, 1, 20, 21, 299} {
			for _, ahead := range []int{0, 30, 50, 51, 300} {
				for _, laid := range [][]string{nil, {same(7)}} {
					m := talking()
					m.draws = laid
					message := m.newMessage(m.past[at], ahead, number, "", "text")
					checkRead(t, "a point that has been", m, message, "", "", api.ErrOld)
				}
			}
		}
	}
	m := talking()
	point := m.past[1]
	m.past = nil
	checkRead(t, "the same point where it has not been", m, m.newMessage(point, 30, 0, "", "text"), "", "text", api.OK)
}

// Of every set of faults of a message of a new point, the one named first is
// the answer.
func TestReadOrderOfErrors(t *testing.T) {
	order := []api.Errno{api.ErrLong, api.ErrSyntax, api.ErrSkip, api.ErrFull, api.ErrDraw, api.ErrZero, api.ErrAuth}
	r := rand.New(rand.NewSource(36))
	for set := 0; set < 2<<len(order); set++ {
		faults, byNumber := set>>1, set&1
		has := func(e api.Errno) bool { return faults>>slices.Index(order, e)&1 != 0 }
		m := talking()
		data, point, ahead, number := "data", same(9), 50, 20
		if has(api.ErrSkip) {
			ahead += 1 - byNumber
			number += byNumber
		}
		if has(api.ErrFull) {
			m.past = randomList(r, 24)
		}
		if has(api.ErrDraw) {
			m.draws = nil
		}
		if has(api.ErrZero) {
			point = same(0)
		}
		if has(api.ErrLong) {
			data = strings.Repeat("d", 101)
		}
		message := m.newMessage(point, ahead, number, data, "text")
		if has(api.ErrAuth) {
			message = message[:len(message)-1] + string([]byte{message[len(message)-1] ^ 0x80})
		}
		if has(api.ErrSyntax) {
			message += "\x00"
		}
		want := api.OK
		for i := len(order) - 1; i >= 0; i-- {
			if has(order[i]) {
				want = order[i]
			}
		}
		checkRead(t, "faults of a new point", m, message, data, answer(want), want)
	}
}

// The same of messages of their point, and of kept keys, which ask for no draw
// and no room.
func TestReadOrderOfOtherErrors(t *testing.T) {
	long := strings.Repeat("d", 101)
	full := talking()
	full.draws = nil
	full.past = randomList(rand.New(rand.NewSource(37)), 24)
	without := full.copied()
	without.reading = ""
	for _, c := range []struct {
		what    string
		m       *model
		message string
		want    api.Errno
	}{
		{"the next one", full, full.nextMessage(30, "", "text"), api.OK},
		{"below Nr", full, full.nextMessage(27, "", "text"), api.ErrOld},
		{"far above Nr", full, full.nextMessage(51, "", "text"), api.ErrSkip},
		{"no chain of reading", without, full.nextMessage(30, "", "text"), api.ErrOld},
		{"no chain of reading, far above Nr", without, full.nextMessage(51, "", "text"), api.ErrOld},
		{"a kept key", full, full.keptMessage(5, "", "text"), api.OK},
		{"a kept key without a chain of reading", without, full.keptMessage(5, "", "text"), api.OK},
		{"a kept key of a point that has been", full, full.keptMessage(6, "", "text"), api.OK},
	} {
		checkRead(t, c.what+", bent, long data", c.m.copied(), c.message+"x", long, "", api.ErrLong)
		checkRead(t, c.what+", long data", c.m.copied(), c.message, long, "", api.ErrLong)
		checkRead(t, c.what+", bent", c.m.copied(), c.message+"x", "", "", api.ErrSyntax)
		wantOther := c.want
		if c.want == api.OK {
			wantOther = api.ErrAuth
		}
		checkRead(t, c.what+", other data", c.m.copied(), c.message, "x", "", wantOther)
		checkRead(t, c.what, c.m.copied(), c.message, "", answer(c.want), c.want)
	}
}

// Nothing has come yet: the side that began knows the other side's point, but
// has no chain for it.
func TestReadFirstOfAll(t *testing.T) {
	point := wantPoint(t, same(2))
	for _, laid := range []int{0, 1} {
		began := start(t, same(5), point, same(1))
		waits := wait(t, same(5), same(2))
		for n := 0; n < laid; n++ {
			began.Lay(same(3))
			waits.Lay(same(3))
		}
		for _, number := range []int{0, 1, 20, 21, 299} {
			refuseRead(t, "the point of the other side", began, sealed(same(7), "", point, 0, number, "text"), "", api.ErrOld)
		}
		want := []api.Errno{api.ErrDraw, api.ErrAuth}[laid]
		refuseRead(t, "any point", began, sealed(same(7), "", same(9), 300, 20, "text"), "", want)
		refuseRead(t, "any point", waits, sealed(same(7), "", same(9), 300, 20, "text"), "", want)
		refuseRead(t, "any point, far on", began, sealed(same(7), "", same(9), 0, 21, "text"), "", api.ErrSkip)
		refuseRead(t, "any point, far on", waits, sealed(same(7), "", same(9), 0, 21, "text"), "", api.ErrSkip)
		refuseRead(t, "its own point", waits, sealed(same(7), "", point, 0, 0, "text"), "", want)
	}
}

// A message that comes back to its sender.
func TestReadOwnMessage(t *testing.T) {
	s := start(t, same(5), wantPoint(t, same(2)), same(1))
	var messages []string
	for n := 0; n < 22; n++ {
		message, _ := s.Send("text", "")
		messages = append(messages, message)
	}
	refuseRead(t, "an own message, no draw", s, messages[0], "", api.ErrDraw)
	s.Lay(same(3))
	refuseRead(t, "an own message", s, messages[0], "", api.ErrAuth)
	refuseRead(t, "an own message", s, messages[20], "", api.ErrAuth)
	refuseRead(t, "an own message, far on", s, messages[21], "", api.ErrSkip)

	other := wait(t, same(5), same(2))
	other.Lay(same(6))
	other.Lay(same(7))
	reads(t, "the message", other, messages[0], "", "text")
	back, _ := other.Send("back", "")
	refuseRead(t, "an own message amid the talk", other, back, "", api.ErrAuth)
	reads(t, "the answer", s, back, "", "back")
	refuseRead(t, "an own message of the chain ahead", s, messages[1], "", api.ErrDraw)

	self := start(t, same(5), wantPoint(t, same(1)), same(1))
	message, _ := self.Send("text", "")
	self.Lay(same(3))
	refuseRead(t, "a talk with itself", self, message, "", api.ErrOld)
}

// States that came by no talk: what is missing is made, what is there is used.
func TestReadImported(t *testing.T) {
	for parts := 0; parts < 8; parts++ {
		m := talking()
		if parts&1 != 0 {
			m.sending = ""
		}
		if parts&2 != 0 {
			m.reading = ""
		}
		if parts&4 != 0 {
			m.theirs, m.reading = "", ""
		}
		byKey := m.copied()
		checkRead(t, "a kept key", byKey, m.keptMessage(3, "", "text"), "", "text", api.OK)
		if byKey.sending != m.sending || byKey.reading != m.reading || byKey.ns != 6 || byKey.nr != 30 || byKey.pn != 8 {
			t.Errorf("P8: a kept key turned a chain")
		}
		if m.theirs != "" {
			want := api.OK
			if m.reading == "" {
				want = api.ErrOld
			}
			checkRead(t, "their point", m.copied(), m.nextMessage(30, "", "text"), "", answer(want), want)
		}
		byPoint := m.copied()
		checkRead(t, "a new point", byPoint, m.newMessage(same(9), 32, 1, "", "text"), "", "text", api.OK)
		if byPoint.sending == "" || byPoint.reading == "" || byPoint.ns != 0 || byPoint.nr != 2 || byPoint.pn != 6 || byPoint.theirs != same(9) {
			t.Errorf("P8: behind a new point: %d, %d, %d", byPoint.ns, byPoint.nr, byPoint.pn)
		}
		want, _ := byPoint.send(t, "back", "data")
		s := imported(t, m.bytes())
		reads(t, "a new point", s, m.newMessage(same(9), 32, 1, "", "text"), "", "text")
		checkSend(t, s, "back", "data", want)
	}
}

// Pn is Ns at each of its bounds.
func TestReadCounts(t *testing.T) {
	for _, ns := range []int{0, 1, 255, 256, 299, 300} {
		m := talking()
		m.ns = ns
		checkRead(t, "a new point", m, m.newMessage(same(9), 0, 0, "", "text"), "", "text", api.OK)
		if m.pn != ns || m.ns != 0 {
			t.Errorf("P8: Ns was %d: Pn %d, Ns %d", ns, m.pn, m.ns)
		}
	}
}
