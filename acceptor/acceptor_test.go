package acceptor_test

import (
	"math"
	"math/rand"
	"slices"
	"strings"
	"testing"
	"unsafe"

	"antiphon/acceptor"
	"antiphon/api"
)

const top = 1<<31 - 1 // MaxNumber

// choirs are all that may be.
func choirs() []api.Choir { return []api.Choir{3, 5, 7, 9} }

// noChoirs are some that may not be: near ones, far ones, such as are like a choir by their lowest bits.
func noChoirs() []api.Choir {
	all := []api.Choir{math.MinInt, math.MinInt + 1, math.MaxInt - 1, math.MaxInt, math.MinInt32, math.MaxInt32}
	for _, c := range []api.Choir{0, 1, 3, 5, 7, 9} {
		all = append(all, -c-1, -c-3, c+1<<32, c-1<<32, c+1<<16, c+1<<8, c+1<<62)
	}
	for c := api.Choir(-12); c <= 20; c++ {
		if !slices.Contains(choirs(), c) {
			all = append(all, c)
		}
	}
	return all
}

// huge are numbers that are no place, no slot, no member.
func huge() []int {
	return []int{math.MinInt, math.MinInt + 1, math.MinInt32, -1 << 32, 1<<32 - 1, 1 << 32, 1<<32 + 1, 1 << 62, -1 << 62, 1 << 16, -1 << 16, math.MaxInt32, math.MaxInt - 1, math.MaxInt}
}

func noSlots() []int { return append(huge(), -4096, -9, -3, -1, 4096, 4097, 4099, 8192) }

// someSlots are the first ones, so that each place owns some, such as are near powers of two, and the last ones.
func someSlots() []int {
	return []int{0, 1, 2, 3, 4, 5, 6, 7, 8, 9, 10, 254, 255, 256, 2047, 2048, 4093, 4094, 4095}
}

// no is no ballot.
func no() api.Ballot { return api.Ballot{Round: -1} }

func of(round int64, place int) api.Ballot { return api.Ballot{Round: round, Place: place} }

// by is an entry that was accepted by a ballot.
func by(b api.Ballot, e api.Entry) api.Accepted { return api.Accepted{Ballot: b, Entry: e} }

// nothing is what is accepted at first.
func nothing() api.Accepted { return api.Accepted{Ballot: no()} }

// speak are the ballots of some rounds that may speak for a slot, each lesser one ahead of each greater, told one by one: in round 0 the owner's alone.
func speak(c api.Choir, slot int, rounds ...int64) []api.Ballot {
	owner := 0
	for range slot {
		if owner++; owner == int(c) {
			owner = 0
		}
	}
	all := []api.Ballot{of(0, owner)}
	for _, round := range rounds {
		for place := range int(c) {
			all = append(all, of(round, place))
		}
	}
	return all
}

// mute are some that may not speak for a slot: no ballot, such as are no choir's, those of round 0 of others than the owner.
func mute(c api.Choir, slot int) []api.Ballot {
	owner := speak(c, slot)[0].Place
	all := []api.Ballot{no()}
	for place := range int(c) {
		if place != owner {
			all = append(all, of(0, place))
		}
		for _, round := range []int64{math.MinInt64, math.MinInt64 + 1, -top - 1, -top, -1 << 32, -2, -1, top + 1, top + 2, 1 << 32, 1<<32 + 1, math.MaxInt64 - 1, math.MaxInt64} {
			all = append(all, of(round, place))
		}
	}
	for _, place := range append(huge(), -int(c), -2, -1, int(c), int(c)+1, 2*int(c), 16, 64, 256) {
		for _, round := range []int64{-1, 0, 1, 2, top, top + 1} {
			all = append(all, of(round, place))
		}
	}
	return all
}

// where tells where a ballot stands among rising ones: that is their order. No ballot is ahead of all.
func where(t *testing.T, rising []api.Ballot, b api.Ballot) int {
	t.Helper()
	at := slices.Index(rising, b)
	if at < 0 && b != no() {
		t.Fatalf("%v is none of %v", b, rising)
	}
	return at
}

func none() api.Entry { return api.Entry{Kind: api.EntryNone} }

func say(text string) api.Entry {
	return api.Entry{Kind: api.EntrySay, Member: 2, Number: 1, Text: text}
}

// said are texts that may be said.
func said() []string {
	return []string{
		"a", "hi", "hi there", "hi  there", "!", "~", "a b c d", "\u00a0", "\u3000", "é", "\ufffd", "\U0010ffff", "\u2028", "@ann hi", "\\\"",
		strings.Repeat("a", 199), strings.Repeat("a", 200), strings.Repeat("é", 100), strings.Repeat("\U0001f642", 50), "a" + strings.Repeat(" ", 198) + "b",
	}
}

// unsaid are texts that may not be.
func unsaid() []string {
	return []string{
		"", " ", "  ", " a", "a ", " a ", "\t", "a\tb", "a\n", "\x00", "\x1f", "\x7f", "\u0080", "\u009f", "a\u0085b", "\xff", "a\xffb", "\xc3", "\xed\xa0\x80", "\xf4\x90\x80\x80", "\xc0\xaf",
		strings.Repeat("a", 201), strings.Repeat("é", 101), strings.Repeat("\U0001f642", 51), "a" + strings.Repeat(" ", 200), strings.Repeat("a", 4096), strings.Repeat("a", 1<<20+1),
	}
}

// rightOnes are entries that may be, all of them different.
func rightOnes() []api.Entry {
	all := []api.Entry{none()}
	for member := range 16 {
		all = append(all, api.Entry{Kind: api.EntryJoin, Member: member}, api.Entry{Kind: api.EntryLeave, Member: member})
		for _, number := range []int64{1, 2, 3, 255, 256, 1 << 16, 1 << 30, top - 1, top} {
			all = append(all, api.Entry{Kind: api.EntrySay, Member: member, Number: number, Text: "hi"})
		}
	}
	for i, text := range said() {
		if text != "hi" {
			all = append(all, api.Entry{Kind: api.EntrySay, Member: i % 16, Number: int64(i + 1), Text: text})
		}
	}
	return all
}

// noMembers are numbers that are none.
func noMembers() []int { return append(huge(), -256, -17, -16, -2, -1, 16, 17, 31, 32, 255, 256, 272) }

// noNumbers are numbers that no saying has.
func noNumbers() []int64 {
	return []int64{math.MinInt64, math.MinInt64 + 1, -top, -1 << 32, -2, -1, 0, top + 1, top + 2, 1<<32 - 1, 1 << 32, 1<<32 + 1, 1 << 62, math.MaxInt64 - 1, math.MaxInt64}
}

// wrongOnes are entries that may not be.
func wrongOnes() []api.Entry {
	all := []api.Entry{{}}
	for _, kind := range []api.EntryKind{math.MinInt, -1 << 32, -4, -1, 0, 5, 6, 8, 1<<32 + 1, 1<<32 + 4, 257, 260, math.MaxInt} {
		all = append(all, api.Entry{Kind: kind}, api.Entry{Kind: kind, Member: 1}, api.Entry{Kind: kind, Member: 2, Number: 1, Text: "hi"})
	}
	for _, kind := range []api.EntryKind{api.EntryNone, api.EntryJoin, api.EntryLeave} {
		for _, number := range append(noNumbers(), 1, 2, top) {
			if number != 0 {
				all = append(all, api.Entry{Kind: kind, Number: number}, api.Entry{Kind: kind, Member: 3, Number: number})
			}
		}
		for _, text := range append(said(), unsaid()...) {
			if text != "" {
				all = append(all, api.Entry{Kind: kind, Text: text}, api.Entry{Kind: kind, Member: 3, Text: text})
			}
		}
		all = append(all, api.Entry{Kind: kind, Number: 1, Text: "hi"}, api.Entry{Kind: kind, Member: 2, Number: 1, Text: "hi"})
	}
	for member := 1; member < 16; member++ {
		all = append(all, api.Entry{Kind: api.EntryNone, Member: member})
	}
	for _, member := range noMembers() {
		all = append(all, api.Entry{Kind: api.EntryNone, Member: member}, api.Entry{Kind: api.EntryJoin, Member: member})
		all = append(all, api.Entry{Kind: api.EntryLeave, Member: member}, api.Entry{Kind: api.EntrySay, Member: member, Number: 1, Text: "hi"})
	}
	for _, number := range noNumbers() {
		all = append(all, api.Entry{Kind: api.EntrySay, Member: 2, Number: number, Text: "hi"})
	}
	for _, text := range unsaid() {
		all = append(all, api.Entry{Kind: api.EntrySay, Member: 2, Number: 1, Text: text})
	}
	return all
}

func made(t *testing.T, c api.Choir, slot int) *acceptor.Acceptor {
	t.Helper()
	a, e := acceptor.New(c, slot)
	if a == nil || e != api.OK {
		t.Fatalf("New(%d, %d) = %v, %v", c, slot, a, e)
	}
	return a
}

func madeOf(t *testing.T, c api.Choir, slot int, promised api.Ballot, accepted api.Accepted) *acceptor.Acceptor {
	t.Helper()
	a, e := acceptor.Of(c, slot, promised, accepted)
	if a == nil || e != api.OK {
		t.Fatalf("Of(%d, %d, %v, %v) = %v, %v", c, slot, promised, accepted, a, e)
	}
	return a
}

// notMade asks whether an acceptor was refused.
func notMade(t *testing.T, why api.Errno) func(*acceptor.Acceptor, api.Errno) {
	t.Helper()
	return func(a *acceptor.Acceptor, e api.Errno) {
		t.Helper()
		if a != nil || e != why {
			t.Fatalf("%v, %v, not %v", a, e, why)
		}
	}
}

// stands asks for all that an acceptor tells: of nothing accepted it tells zero, and false.
func stands(t *testing.T, a *acceptor.Acceptor, promised api.Ballot, accepted api.Accepted) {
	t.Helper()
	if got := a.Promised(); got != promised {
		t.Fatalf("it promised %v, not %v", got, promised)
	}
	want, has := accepted, accepted.Ballot != no()
	if !has {
		want = api.Accepted{}
	}
	if got, is := a.Accepted(); got != want || is != has {
		t.Fatalf("it accepted %v, %v, not %v, %v", got, is, want, has)
	}
}

// promised asks whether it was, and what was told as accepted.
func promised(t *testing.T, want api.Accepted) func(api.Accepted, bool, api.Errno) {
	t.Helper()
	return func(a api.Accepted, is bool, e api.Errno) {
		t.Helper()
		if a != want || !is || e != api.OK {
			t.Fatalf("%v, %v, %v, not %v", a, is, e, want)
		}
	}
}

// notPromised asks whether it was refused, and nothing told beside: of OK by what it promised.
func notPromised(t *testing.T, why api.Errno) func(api.Accepted, bool, api.Errno) {
	t.Helper()
	return func(a api.Accepted, is bool, e api.Errno) {
		t.Helper()
		if a != (api.Accepted{}) || is || e != why {
			t.Fatalf("%v, %v, %v, not %v", a, is, e, why)
		}
	}
}

func accepted(t *testing.T) func(bool, api.Errno) {
	t.Helper()
	return func(is bool, e api.Errno) {
		t.Helper()
		if !is || e != api.OK {
			t.Fatalf("%v, %v: it is not accepted", is, e)
		}
	}
}

// notAccepted asks whether it was refused: of OK by what it promised.
func notAccepted(t *testing.T, why api.Errno) func(bool, api.Errno) {
	t.Helper()
	return func(is bool, e api.Errno) {
		t.Helper()
		if is || e != why {
			t.Fatalf("%v, %v, not %v", is, e, why)
		}
	}
}

// standings are all states that an acceptor may have by some rising ballots: what it promised, what it accepted by no greater one, or nothing.
func standings(rising []api.Ballot, entries ...api.Entry) []api.Accepted {
	all := []api.Accepted{nothing()}
	for _, b := range rising {
		for _, e := range entries {
			all = append(all, by(b, e))
		}
	}
	return all
}

func TestExamples(t *testing.T) { // P14.2, P14.3: one row behind the other, of one acceptor
	a := made(t, 3, 1)
	accepted(t)(a.Accept(of(0, 1), none()))
	promised(t, by(of(0, 1), none()))(a.Promise(of(1, 0)))
	notAccepted(t, api.OK)(a.Accept(of(0, 1), none()))

	notPromised(t, api.OK)(a.Promise(of(1, 0)))
	notPromised(t, api.ErrArg)(a.Promise(of(0, 1)))
	notAccepted(t, api.ErrArg)(a.Accept(of(0, 2), none()))

	accepted(t)(a.Accept(of(2, 2), none()))
	stands(t, a, of(2, 2), by(of(2, 2), none()))
}

func TestRight(t *testing.T) { // P14.1: each kind, with the edges of members, numbers and texts
	for _, e := range rightOnes() {
		if !acceptor.Right(e) {
			t.Errorf("kind %d, member %d, number %d, %.60q may be", e.Kind, e.Member, e.Number, e.Text)
		}
	}
	for _, e := range wrongOnes() {
		if acceptor.Right(e) {
			t.Errorf("kind %d, member %d, number %d, %.60q may not be", e.Kind, e.Member, e.Number, e.Text)
		}
	}
}

func TestRightOfAll(t *testing.T) { // P14.1: whatever is put together, told kind by kind
	texts := []string{"", "a", "a b", " a", "a\x01", "\xff", strings.Repeat("a", 200), strings.Repeat("a", 201)}
	maySay := []bool{false, true, true, false, false, false, true, false}
	for kind := api.EntryKind(-2); kind <= 9; kind++ {
		for member := -3; member <= 20; member++ {
			for _, number := range []int64{-1, 0, 1, 2, top - 1, top, top + 1, 1 << 32} {
				for i, text := range texts {
					want := false
					switch kind {
					case 1:
						want = member == 0 && number == 0 && text == ""
					case 2, 3:
						want = member >= 0 && member < 16 && number == 0 && text == ""
					case 4:
						want = member >= 0 && member < 16 && number > 0 && number < 1<<31 && maySay[i]
					}
					e := api.Entry{Kind: kind, Member: member, Number: number, Text: text}
					if acceptor.Right(e) != want {
						t.Fatalf("Right(%v) = %v", e, !want)
					}
				}
			}
		}
	}
}

func TestNew(t *testing.T) { // P14.1: at first the owner's ballot, and nothing
	for _, c := range choirs() {
		owner := 0
		for slot := range 4096 {
			stands(t, made(t, c, slot), of(0, owner), nothing())
			if owner++; owner == int(c) {
				owner = 0
			}
		}
		for _, slot := range noSlots() {
			notMade(t, api.ErrRange)(acceptor.New(c, slot))
		}
	}
	for _, c := range noChoirs() { // ErrArg, also where the slot is none
		for _, slot := range append(noSlots(), 0, 1, 4095) {
			notMade(t, api.ErrArg)(acceptor.New(c, slot))
		}
	}
}

func TestOf(t *testing.T) { // P14.1: what was accepted by a ballot that is not above what was promised, or nothing
	for _, c := range choirs() {
		for _, slot := range someSlots() {
			rising := speak(c, slot, 1, 2, top)
			for i, b := range rising {
				stands(t, madeOf(t, c, slot, b, nothing()), b, nothing())
				for j, other := range rising {
					if j <= i {
						stands(t, madeOf(t, c, slot, b, by(other, say("hi"))), b, by(other, say("hi")))
					} else {
						notMade(t, api.ErrArg)(acceptor.Of(c, slot, b, by(other, say("hi"))))
					}
				}
			}
		}
	}
}

func TestOfEntries(t *testing.T) { // P14.1: such as may be, by the owner's ballot and by others; of no ballot none, not even one that may be
	for _, c := range choirs() {
		for _, b := range []api.Ballot{of(0, 1), of(1, 0), of(top, 2)} {
			for _, e := range rightOnes() {
				stands(t, madeOf(t, c, 1, of(top, 2), by(b, e)), of(top, 2), by(b, e))
				notMade(t, api.ErrArg)(acceptor.Of(c, 1, b, by(no(), e)))
			}
			for _, e := range wrongOnes() {
				notMade(t, api.ErrArg)(acceptor.Of(c, 1, of(top, 2), by(b, e)))
				if e != (api.Entry{}) {
					notMade(t, api.ErrArg)(acceptor.Of(c, 1, b, by(no(), e)))
				}
			}
		}
	}
	for _, e := range []api.Entry{{Member: 1}, {Number: 1}, {Text: "a"}, {Kind: -1}} {
		notMade(t, api.ErrArg)(acceptor.Of(3, 1, of(1, 0), by(no(), e)))
	}
}

func TestOfBallots(t *testing.T) { // P14.1: both may speak for the slot
	for _, c := range choirs() {
		for _, slot := range someSlots() {
			owners := speak(c, slot)[0]
			for _, b := range mute(c, slot) {
				notMade(t, api.ErrArg)(acceptor.Of(c, slot, b, nothing()))
				notMade(t, api.ErrArg)(acceptor.Of(c, slot, b, by(b, none())))
				notMade(t, api.ErrArg)(acceptor.Of(c, slot, b, by(owners, none())))
				notMade(t, api.ErrArg)(acceptor.Of(c, slot, b, by(no(), none())))
				notMade(t, api.ErrArg)(acceptor.Of(c, slot, of(top, int(c)-1), by(b, none())))
				if b != no() { // nothing is of no ballot alone, not of others that are less than all
					notMade(t, api.ErrArg)(acceptor.Of(c, slot, of(top, int(c)-1), by(b, api.Entry{})))
				}
			}
			notMade(t, api.ErrArg)(acceptor.Of(c, slot, of(1, 0), api.Accepted{})) // zero is not nothing
			notMade(t, api.ErrArg)(acceptor.Of(c, slot, owners, by(owners, api.Entry{})))
		}
	}
}

func TestOfNoSlot(t *testing.T) { // P14.1: ErrArg of the choir, then ErrRange, then ErrArg of all else
	given := []struct {
		promised api.Ballot
		accepted api.Accepted
	}{
		{of(1, 0), nothing()}, {of(0, 1), by(of(0, 1), none())}, {no(), nothing()}, {of(-1, 3), api.Accepted{}}, {of(1, 0), by(of(1, 1), none())}, {of(1, 0), by(of(1, 0), api.Entry{})},
	}
	for _, g := range given {
		for _, c := range noChoirs() {
			for _, slot := range append(noSlots(), 0, 1, 4095) {
				notMade(t, api.ErrArg)(acceptor.Of(c, slot, g.promised, g.accepted))
			}
		}
		for _, c := range choirs() {
			for _, slot := range noSlots() {
				notMade(t, api.ErrRange)(acceptor.Of(c, slot, g.promised, g.accepted))
			}
		}
	}
}

func TestPromise(t *testing.T) { // P14.2: above what it promised, in each state; what was accepted is told and stays
	for _, c := range choirs() {
		for _, slot := range []int{0, 1, 4, 4095} {
			rising := speak(c, slot, 1, 2, top-1, top)
			for i, was := range rising {
				for _, s := range standings(rising[:i+1], none(), say("hi")) {
					for j, b := range rising[1:] {
						a := madeOf(t, c, slot, was, s)
						if j+1 > i {
							promised(t, s)(a.Promise(b))
							stands(t, a, b, s)
						} else {
							notPromised(t, api.OK)(a.Promise(b))
							stands(t, a, was, s)
						}
					}
				}
			}
		}
	}
}

func TestAccept(t *testing.T) { // P14.2: not less than what it promised, in each state; it is promised with that, and takes the place of what was accepted
	for _, c := range choirs() {
		for _, slot := range []int{0, 1, 4, 4095} {
			rising := speak(c, slot, 1, 2, top-1, top)
			for i, was := range rising {
				for _, s := range standings(rising[:i+1], none(), say("hi")) {
					for j, b := range rising {
						for _, e := range []api.Entry{none(), say("ho")} {
							a := madeOf(t, c, slot, was, s)
							if j >= i {
								accepted(t)(a.Accept(b, e))
								stands(t, a, b, by(b, e))
							} else {
								notAccepted(t, api.OK)(a.Accept(b, e))
								stands(t, a, was, s)
							}
						}
					}
				}
			}
		}
	}
}

func TestOwnersSlots(t *testing.T) { // P14.2: of each slot the owner's ballot is accepted at first, and that of no other place of round 0
	for _, c := range choirs() {
		for slot := range 4096 {
			owners := speak(c, slot%int(c))[0]
			a := made(t, c, slot)
			for place := range int(c) {
				notPromised(t, api.ErrArg)(a.Promise(of(0, place)))
				if of(0, place) != owners {
					notAccepted(t, api.ErrArg)(a.Accept(of(0, place), none()))
				}
			}
			stands(t, a, owners, nothing())
			accepted(t)(a.Accept(owners, say("hi")))
			stands(t, a, owners, by(owners, say("hi")))
		}
	}
}

func TestAcceptEntries(t *testing.T) { // P14.2: each that may be is kept as it is; others are ErrArg, also by a ballot that is refused, and change nothing
	for _, b := range []api.Ballot{of(0, 1), of(1, 2), of(top, 0)} {
		for _, e := range rightOnes() {
			a := made(t, 3, 1)
			accepted(t)(a.Accept(b, e))
			stands(t, a, b, by(b, e))
			promised(t, by(b, e))(a.Promise(of(top, 2)))
			stands(t, a, of(top, 2), by(b, e))
		}
		for _, e := range wrongOnes() {
			a := made(t, 3, 1)
			notAccepted(t, api.ErrArg)(a.Accept(b, e))
			stands(t, a, of(0, 1), nothing())
			a = madeOf(t, 3, 1, of(top, 1), by(of(1, 1), say("hi")))
			notAccepted(t, api.ErrArg)(a.Accept(b, e))
			notAccepted(t, api.ErrArg)(a.Accept(of(top, 2), e))
			stands(t, a, of(top, 1), by(of(1, 1), say("hi")))
		}
	}
}

func TestMute(t *testing.T) { // P14.2: ErrArg of who may not speak, and nothing changes
	for _, c := range choirs() {
		for _, slot := range someSlots() {
			rising := speak(c, slot, 1, top)
			for _, s := range []api.Accepted{nothing(), by(rising[0], say("hi")), by(rising[2], none())} {
				for _, was := range []api.Ballot{rising[3], rising[len(rising)-1]} {
					a := madeOf(t, c, slot, was, s)
					for _, b := range mute(c, slot) {
						notPromised(t, api.ErrArg)(a.Promise(b))
						notAccepted(t, api.ErrArg)(a.Accept(b, none()))
						notAccepted(t, api.ErrArg)(a.Accept(b, api.Entry{}))
					}
					notPromised(t, api.ErrArg)(a.Promise(rising[0])) // the owner's may speak, but not ask for promises
					stands(t, a, was, s)
				}
			}
		}
	}
}

func TestNoAcceptor(t *testing.T) { // P14.2, P14.3: nil ones, and such as no call made: ErrNil, ahead of ErrArg
	refused, _ := acceptor.New(4, 1)
	refusedToo, _ := acceptor.Of(3, 1, no(), nothing())
	for _, a := range []*acceptor.Acceptor{nil, {}, refused, refusedToo} {
		for _, b := range append(mute(3, 1), speak(3, 1, 1, 2, top)...) {
			notPromised(t, api.ErrNil)(a.Promise(b))
			notAccepted(t, api.ErrNil)(a.Accept(b, none()))
			notAccepted(t, api.ErrNil)(a.Accept(b, api.Entry{}))
		}
		if b := a.Promised(); b != (api.Ballot{}) {
			t.Errorf("it promised %v", b)
		}
		if got, is := a.Accepted(); got != (api.Accepted{}) || is {
			t.Errorf("it accepted %v, %v", got, is)
		}
		if a.Copy() != nil {
			t.Error("there is a copy of none")
		}
	}
}

func TestCopy(t *testing.T) { // P14.3: another one of the same, that goes on apart
	for _, c := range choirs() {
		rising := speak(c, 4, 1, 2)
		for i, was := range rising {
			for _, s := range standings(rising[:i+1], none(), say("hi")) {
				a := madeOf(t, c, 4, was, s)
				b := a.Copy()
				if b == nil || b == a || !acceptor.Same(a, b) {
					t.Fatalf("another one of %v, %v: %v", was, s, b)
				}
				stands(t, b, was, s)
				promised(t, s)(b.Promise(of(3, 1)))
				stands(t, a, was, s)
				other := a.Copy()
				accepted(t)(a.Accept(of(4, 2), say("ho")))
				stands(t, b, of(3, 1), s)
				accepted(t)(other.Accept(of(5, 0), none()))
				stands(t, a, of(4, 2), by(of(4, 2), say("ho")))
				stands(t, other, of(5, 0), by(of(5, 0), none()))
			}
		}
	}
}

func TestCopyOfEachSlot(t *testing.T) { // P14.3: of the same choir and slot: who may speak for it, and who is none
	for _, c := range choirs() {
		for _, slot := range someSlots() {
			owners := speak(c, slot)[0]
			a := made(t, c, slot).Copy()
			accepted(t)(a.Accept(owners, none()))
			for _, b := range mute(c, slot) {
				notAccepted(t, api.ErrArg)(a.Accept(b, none()))
			}
			promised(t, by(owners, none()))(a.Promise(of(1, int(c)-1)))
		}
	}
}

func TestSame(t *testing.T) { // P14.3: the same choir, slot, and state
	type told struct {
		choir    api.Choir
		slot     int
		promised api.Ballot
		accepted api.Accepted
	}
	entries := []api.Entry{none(), say("hi"), say("ho"), {Kind: api.EntrySay, Member: 3, Number: 1, Text: "hi"}, {Kind: api.EntrySay, Member: 2, Number: 2, Text: "hi"}, {Kind: api.EntryJoin, Member: 2}, {Kind: api.EntryLeave, Member: 2}}
	var all []told
	for _, c := range []api.Choir{3, 9} {
		for _, slot := range []int{1, 10, 4} { // 1 and 10 have one owner in both choirs, 1 and 4 in one
			rising := speak(c, slot, 1, 2)
			for i, was := range rising {
				for _, s := range standings(rising[:min(i+1, 3)], entries...) {
					all = append(all, told{c, slot, was, s})
				}
			}
		}
	}
	var ones, others []*acceptor.Acceptor
	for _, x := range all {
		ones = append(ones, madeOf(t, x.choir, x.slot, x.promised, x.accepted))
		others = append(others, madeOf(t, x.choir, x.slot, x.promised, x.accepted))
	}
	for i, a := range ones {
		for j, b := range others {
			if acceptor.Same(a, b) != (i == j) {
				t.Fatalf("Same(%v, %v) = %v", all[i], all[j], i != j)
			}
		}
	}
}

func TestSameHoweverItCame(t *testing.T) { // P14.3: the state counts, not what was asked on the way; what was refused leaves nothing
	a, b := made(t, 5, 7), made(t, 5, 7)
	if !acceptor.Same(a, b) || !acceptor.Same(a, a) || !acceptor.Same(a, madeOf(t, 5, 7, of(0, 2), nothing())) {
		t.Error("new ones are not the same")
	}
	promised(t, nothing())(a.Promise(of(1, 4)))
	if acceptor.Same(a, b) {
		t.Error("one of them promised")
	}
	notPromised(t, api.OK)(a.Promise(of(1, 1)))
	notPromised(t, api.ErrArg)(a.Promise(of(3, 5)))
	notAccepted(t, api.OK)(a.Accept(of(1, 3), say("ho")))
	notAccepted(t, api.ErrArg)(a.Accept(of(3, 5), say("ho")))
	notAccepted(t, api.ErrArg)(a.Accept(of(3, 4), say("")))
	accepted(t)(a.Accept(of(1, 4), say("ho")))
	accepted(t)(a.Accept(of(2, 0), say("hi")))
	promised(t, by(of(2, 0), say("hi")))(a.Promise(of(2, 3)))
	accepted(t)(b.Accept(of(2, 0), say("hi")))
	if acceptor.Same(a, b) || acceptor.Same(b, a) {
		t.Error("they promised different ballots")
	}
	promised(t, by(of(2, 0), say("hi")))(b.Promise(of(2, 3)))
	if !acceptor.Same(a, b) || !acceptor.Same(b, madeOf(t, 5, 7, of(2, 3), by(of(2, 0), say("hi")))) {
		t.Error("the same state is not the same")
	}
}

func TestSameNil(t *testing.T) { // P14.3: a nil one is like a nil one alone
	nobody := []*acceptor.Acceptor{nil, {}}
	for _, a := range nobody {
		for _, b := range nobody {
			if !acceptor.Same(a, b) {
				t.Error("nil ones are not the same")
			}
		}
		for _, c := range choirs() {
			for _, b := range []*acceptor.Acceptor{made(t, c, 0), made(t, c, 1), madeOf(t, c, 0, of(0, 0), by(of(0, 0), none()))} {
				if acceptor.Same(a, b) || acceptor.Same(b, a) {
					t.Errorf("an acceptor of %d is like a nil one", c)
				}
			}
		}
	}
}

// fresh is a text whose bytes may be changed behind it.
func fresh(text string) (string, []byte) {
	b := []byte(text)
	return unsafe.String(&b[0], len(b)), b
}

func TestTextIsNotKept(t *testing.T) { // what is handed in is not kept
	text, b := fresh("hi there")
	a := made(t, 3, 1)
	accepted(t)(a.Accept(of(1, 0), say(text)))
	other := madeOf(t, 3, 1, of(1, 0), by(of(1, 0), say(text)))
	copy(b, "ho")
	stands(t, a, of(1, 0), by(of(1, 0), say("hi there")))
	stands(t, other, of(1, 0), by(of(1, 0), say("hi there")))
}

func TestTextIsNew(t *testing.T) { // an answer shares no memory with another one, nor with a copy
	a := made(t, 3, 1)
	accepted(t)(a.Accept(of(1, 0), say("hi there")))
	one, _ := a.Accepted()
	two, _ := a.Accepted()
	copied, _ := a.Copy().Accepted()
	three, _, _ := a.Copy().Promise(of(1, 1))
	four, _, _ := a.Promise(of(1, 1))
	five, _, _ := a.Promise(of(1, 2))
	seen := map[*byte]int{}
	for _, got := range []api.Accepted{one, two, copied, three, four, five} {
		if got != by(of(1, 0), say("hi there")) {
			t.Fatal(got)
		}
		seen[unsafe.StringData(got.Entry.Text)]++
	}
	if len(seen) != 6 {
		t.Errorf("6 answers have %d texts", len(seen))
	}
}

// asked is what an acceptor was asked: to promise, or to accept an entry.
type asked struct {
	promise bool
	ballot  api.Ballot
	entry   api.Entry
}

// asks asks all of some asks, one behind the other, and holds each answer against all that was told true ahead of it: a promise is above each ballot of these, what is accepted not below any.
func asks(t *testing.T, a *acceptor.Acceptor, rising []api.Ballot, all ...asked) {
	t.Helper()
	was, last := -1, nothing()
	for i, x := range all {
		at := where(t, rising, x.ballot)
		switch {
		case x.promise && at == 0:
			notPromised(t, api.ErrArg)(a.Promise(x.ballot))
		case x.promise && at > max(was, 0):
			promised(t, last)(a.Promise(x.ballot))
			was = at
		case x.promise:
			notPromised(t, api.OK)(a.Promise(x.ballot))
		case at >= was:
			accepted(t)(a.Accept(x.ballot, x.entry))
			was, last = at, by(x.ballot, x.entry)
		default:
			notAccepted(t, api.OK)(a.Accept(x.ballot, x.entry))
		}
		stands(t, a, rising[max(was, 0)], last)
		if got, is := a.Accepted(); is && where(t, rising, got.Ballot) > where(t, rising, a.Promised()) {
			t.Fatalf("behind %v it accepted what is above %v", all[:i+1], a.Promised())
		}
	}
}

func TestAllShortTalks(t *testing.T) { // P14.2, P14.4: whatever is asked, four times
	rising := speak(3, 1, 1, 2)
	var some []asked
	for _, b := range []api.Ballot{of(0, 1), of(1, 0), of(1, 2), of(2, 1)} {
		some = append(some, asked{promise: true, ballot: b}, asked{ballot: b, entry: none()}, asked{ballot: b, entry: say("hi")})
	}
	for _, w := range some {
		for _, x := range some {
			for _, y := range some {
				for _, z := range some {
					asks(t, made(t, 3, 1), rising, w, x, y, z)
				}
			}
		}
	}
}

func TestLongTalks(t *testing.T) { // P14.2, P14.4: what is promised never gets less, nor what is accepted
	mix := rand.New(rand.NewSource(14))
	entries := rightOnes()
	for _, c := range choirs() {
		for range 300 {
			slot := mix.Intn(4096)
			rising := speak(c, slot, 1, 2, 3, 4, 5, top-1, top)
			var all []asked
			at := 0
			for range mix.Intn(60) { // near what was asked last, so that much is told true, and much refused
				at = min(max(at+mix.Intn(6)-2, 0), len(rising)-1)
				all = append(all, asked{mix.Intn(2) == 0, rising[at], entries[mix.Intn(len(entries))]})
			}
			asks(t, made(t, c, slot), rising, all...)
		}
	}
}

func TestNeverLess(t *testing.T) { // P14.4: whatever is asked, also such as may not be; what is less than what was promised is not accepted any more
	mix := rand.New(rand.NewSource(4))
	entries := append(rightOnes(), wrongOnes()[:20]...)
	for _, c := range choirs() {
		for range 60 {
			slot := mix.Intn(4096)
			rising := speak(c, slot, 1, 2, 3, top)
			ballots := append(mute(c, slot), slices.Repeat(rising, 6)...)
			a := made(t, c, slot)
			for range 100 {
				was := where(t, rising, a.Promised())
				had, _ := a.Accepted()
				if b := ballots[mix.Intn(len(ballots))]; mix.Intn(2) == 0 {
					a.Promise(b)
				} else if is, _ := a.Accept(b, entries[mix.Intn(len(entries))]); is && where(t, rising, b) < was {
					t.Fatalf("%v is accepted behind %v", b, rising[was])
				}
				for _, lesser := range rising[:was] {
					notAccepted(t, api.OK)(a.Copy().Accept(lesser, none()))
				}
				has, is := a.Accepted()
				now := where(t, rising, a.Promised())
				if now < was || is && where(t, rising, has.Ballot) > now || is && had.Entry.Kind != 0 && where(t, rising, has.Ballot) < where(t, rising, had.Ballot) || !is && had.Entry.Kind != 0 {
					t.Fatalf("%v and %v, behind %v and %v", a.Promised(), has, rising[was], had)
				}
			}
		}
	}
}

func TestGoesOnFromWhatItIs(t *testing.T) { // P14.1, P14.4: one that is made of a state goes on as the one that had it
	mix := rand.New(rand.NewSource(41))
	for range 200 {
		rising := speak(5, 8, 1, 2, 3)
		a := made(t, 5, 8)
		for range 30 {
			has, is := a.Accepted()
			if !is {
				has = nothing()
			}
			b := madeOf(t, 5, 8, a.Promised(), has)
			x := rising[mix.Intn(len(rising))]
			if mix.Intn(2) == 0 {
				was, wasIs, why := a.Promise(x)
				got, gotIs, e := b.Promise(x)
				if got != was || gotIs != wasIs || e != why {
					t.Fatalf("%v, %v, %v, not %v, %v, %v", got, gotIs, e, was, wasIs, why)
				}
			} else {
				wasIs, why := a.Accept(x, say("hi"))
				if is, e := b.Accept(x, say("hi")); is != wasIs || e != why {
					t.Fatalf("%v, %v, not %v, %v", is, e, wasIs, why)
				}
			}
			if !acceptor.Same(a, b) {
				t.Fatalf("%v and %v", a, b)
			}
		}
	}
}
