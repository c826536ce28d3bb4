package learner_test

import (
	"fmt"
	"math"
	"math/rand"
	"slices"
	"strings"
	"testing"
	"unsafe"

	"antiphon/api"
	"antiphon/learner"
)

const top = 1<<31 - 1 // MaxNumber

// choirs are all that may be.
func choirs() []api.Choir { return []api.Choir{3, 5, 7, 9} }

// noChoirs are some that may not be: near ones, far ones, such as are like a choir by their lowest bits.
func noChoirs() []api.Choir {
	all := []api.Choir{math.MinInt, math.MinInt + 1, math.MaxInt - 1, math.MaxInt, math.MinInt32, math.MaxInt32}
	for _, c := range []api.Choir{0, 1, 3, 5, 7, 9} {
		all = append(all, -c-1, -c-3, c+1<<32, c-1<<32, c+1<<16, c+1<<8, c+1<<62)
	}
	for c := api.Choir(-12); c <= 20; c++ {
		if !slices.Contains(choirs(), c) {
			all = append(all, c)
		}
	}
	return all
}

// huge are numbers that are no place, no slot, no member.
func huge() []int {
	return []int{math.MinInt, math.MinInt + 1, math.MinInt32, -1 << 32, 1<<32 - 1, 1 << 32, 1<<32 + 1, 1 << 62, -1 << 62, 1 << 16, -1 << 16, math.MaxInt32, math.MaxInt - 1, math.MaxInt}
}

func noSlots() []int { return append(huge(), -4096, -9, -3, -1, 4096, 4097, 4099, 8192) }

// noPlaces are numbers that are none of a choir's.
func noPlaces(c api.Choir) []int {
	return append(huge(), -int(c), -2, -1, int(c), int(c)+1, 2*int(c), 16, 64, 256)
}

// someSlots are the first ones, so that each place owns some, such as are near powers of two, and the last ones.
func someSlots() []int {
	return []int{0, 1, 2, 3, 4, 5, 6, 7, 8, 9, 10, 254, 255, 256, 2047, 2048, 4093, 4094, 4095}
}

// no is no ballot.
func no() api.Ballot { return api.Ballot{Round: -1} }

func of(round int64, place int) api.Ballot { return api.Ballot{Round: round, Place: place} }

// speak are the ballots of some rounds that may speak for a slot, each lesser one ahead of each greater, told one by one: in round 0 the owner's alone.
func speak(c api.Choir, slot int, rounds ...int64) []api.Ballot {
	owner := 0
	for range slot {
		if owner++; owner == int(c) {
			owner = 0
		}
	}
	all := []api.Ballot{of(0, owner)}
	for _, round := range rounds {
		for place := range int(c) {
			all = append(all, of(round, place))
		}
	}
	return all
}

// mute are some that may not speak for a slot: no ballot, such as are no choir's, those of round 0 of others than the owner.
func mute(c api.Choir, slot int) []api.Ballot {
	owner := speak(c, slot)[0].Place
	all := []api.Ballot{no()}
	for place := range int(c) {
		if place != owner {
			all = append(all, of(0, place))
		}
		for _, round := range []int64{math.MinInt64, math.MinInt64 + 1, -top - 1, -top, -1 << 32, -2, -1, top + 1, top + 2, 1 << 32, 1<<32 + 1, math.MaxInt64 - 1, math.MaxInt64} {
			all = append(all, of(round, place))
		}
	}
	for _, place := range noPlaces(c) {
		for _, round := range []int64{-1, 0, 1, 2, top, top + 1} {
			all = append(all, of(round, place))
		}
	}
	return all
}

func none() api.Entry { return api.Entry{Kind: api.EntryNone} }

func say(text string) api.Entry {
	return api.Entry{Kind: api.EntrySay, Member: 2, Number: 1, Text: text}
}

// rightOnes are entries that may be, all of them different.
func rightOnes() []api.Entry {
	all := []api.Entry{none()}
	for _, member := range []int{0, 1, 7, 15} {
		all = append(all, api.Entry{Kind: api.EntryJoin, Member: member}, api.Entry{Kind: api.EntryLeave, Member: member})
		for _, number := range []int64{1, 2, 256, top - 1, top} {
			all = append(all, api.Entry{Kind: api.EntrySay, Member: member, Number: number, Text: "hi"})
		}
	}
	for i, text := range []string{"a", "hi there", "é", "\U0010ffff", "@ann hi", strings.Repeat("a", 200)} {
		all = append(all, api.Entry{Kind: api.EntrySay, Member: i, Number: int64(i + 1), Text: text})
	}
	return all
}

// wrongOnes are entries that may not be.
func wrongOnes() []api.Entry {
	all := []api.Entry{{}, {Member: 1}, {Number: 1}, {Text: "hi"}}
	for _, kind := range []api.EntryKind{math.MinInt, -1, 0, 5, 1<<32 + 1, math.MaxInt} {
		all = append(all, api.Entry{Kind: kind}, api.Entry{Kind: kind, Member: 2, Number: 1, Text: "hi"})
	}
	for _, kind := range []api.EntryKind{api.EntryNone, api.EntryJoin, api.EntryLeave} {
		all = append(all, api.Entry{Kind: kind, Member: 16}, api.Entry{Kind: kind, Member: -1}, api.Entry{Kind: kind, Number: 1}, api.Entry{Kind: kind, Text: "hi"})
	}
	all = append(all, api.Entry{Kind: api.EntryNone, Member: 1})
	for _, member := range []int{math.MinInt, -1, 16, 1 << 32, math.MaxInt} {
		all = append(all, api.Entry{Kind: api.EntrySay, Member: member, Number: 1, Text: "hi"})
	}
	for _, number := range []int64{math.MinInt64, -1, 0, top + 1, 1<<32 + 1, math.MaxInt64} {
		all = append(all, api.Entry{Kind: api.EntrySay, Member: 2, Number: number, Text: "hi"})
	}
	for _, text := range []string{"", " ", " a", "a ", "a\n", "\x00", "\xff", strings.Repeat("a", 201), strings.Repeat("a", 1<<20+1)} {
		all = append(all, say(text))
	}
	return all
}

func begin(t *testing.T, c api.Choir, slot int) *learner.Learner {
	t.Helper()
	l, e := learner.New(c, slot)
	if l == nil || e != api.OK {
		t.Fatalf("New(%d, %d) = %v, %v", c, slot, l, e)
	}
	return l
}

// is asks whether a learner was told something, and what it answered.
func is(t *testing.T, want bool) func(bool, api.Errno) {
	t.Helper()
	return func(got bool, e api.Errno) {
		t.Helper()
		if got != want || e != api.OK {
			t.Fatalf("%v, %v, not %v", got, e, want)
		}
	}
}

// refused asks whether a call was refused, and nothing told beside.
func refused(t *testing.T, why api.Errno) func(bool, api.Errno) {
	t.Helper()
	return func(got bool, e api.Errno) {
		t.Helper()
		if got || e != why {
			t.Fatalf("%v, %v, not %v", got, e, why)
		}
	}
}

// unknown asks whether a learner knows of nothing that it is chosen.
func unknown(t *testing.T, l *learner.Learner) {
	t.Helper()
	if e, known := l.Chosen(); known || e != (api.Entry{}) {
		t.Fatalf("%v, %v is chosen", e, known)
	}
}

// knows asks whether a learner knows what is chosen.
func knows(t *testing.T, l *learner.Learner, want api.Entry) {
	t.Helper()
	if e, known := l.Chosen(); !known || e != want {
		t.Fatalf("%v, %v is chosen, not %v", e, known, want)
	}
}

// by is who accepted what by a ballot.
func by(b api.Ballot, e api.Entry, places ...int) api.Heard {
	return api.Heard{Ballot: b, Entry: e, Places: places}
}

func alike(a, b api.Heard) bool {
	return a.Ballot == b.Ballot && a.Entry == b.Entry && slices.Equal(a.Places, b.Places)
}

// heardOf asks for all that a learner tells that it heard.
func heardOf(t *testing.T, l *learner.Learner, want ...api.Heard) {
	t.Helper()
	if got := l.Heard(); !slices.EqualFunc(got, want, alike) {
		t.Fatalf("heard was %v, not %v", got, want)
	}
}

func TestNumbers(t *testing.T) { // as the chapter numbers it
	if api.ErrClash != 260 {
		t.Error(api.ErrClash)
	}
}

func TestExamples(t *testing.T) { // P16.1, P16.2: the first two rows are of one learner
	l := begin(t, 3, 1)
	is(t, false)(l.Hear(0, of(0, 1), say("hi")))
	is(t, false)(l.Hear(0, of(0, 1), say("hi")))
	is(t, true)(l.Hear(2, of(0, 1), say("hi")))
	knows(t, l, say("hi"))

	refused(t, api.ErrClash)(l.Told(none()))
	refused(t, api.ErrClash)(l.Skipped())
	refused(t, api.ErrClash)(l.Hear(1, of(0, 1), say("ho")))
	knows(t, l, say("hi"))
	heardOf(t, l, by(of(0, 1), say("hi"), 0, 2))

	l = begin(t, 3, 1)
	is(t, false)(l.Hear(0, of(1, 0), say("hi")))
	is(t, false)(l.Hear(1, of(2, 0), say("hi")))
	is(t, true)(l.Skipped())
	knows(t, l, none())
	heardOf(t, l, by(of(1, 0), say("hi"), 0), by(of(2, 0), say("hi"), 1))
}

func TestNew(t *testing.T) { // P16.1: of each choir and slot one that heard nothing
	for _, c := range choirs() {
		for slot := range 4096 {
			l := begin(t, c, slot)
			unknown(t, l)
			heardOf(t, l)
			if l == begin(t, c, slot) {
				t.Fatal("one learner was given twice")
			}
		}
	}
}

func TestNewRefuses(t *testing.T) { // P16.1: ErrArg, ErrRange, in this order
	refuses := func(c api.Choir, slot int, why api.Errno) {
		t.Helper()
		if l, e := learner.New(c, slot); l != nil || e != why {
			t.Fatalf("New(%d, %d) = %v, %v, not %v", c, slot, l, e, why)
		}
	}
	for _, c := range noChoirs() {
		for _, slot := range append(noSlots(), someSlots()...) {
			refuses(c, slot, api.ErrArg)
		}
	}
	for _, c := range choirs() {
		for _, slot := range noSlots() {
			refuses(c, slot, api.ErrRange)
		}
	}
}

// rows are some ways in which the places of a choir may come in turn.
func rows(c api.Choir) [][]int {
	mix := rand.New(rand.NewSource(int64(c)))
	var all [][]int
	for range 60 {
		all = append(all, mix.Perm(int(c)))
	}
	return all
}

func sorted(places []int) []int { return slices.Sorted(slices.Values(places)) }

func TestMajority(t *testing.T) { // P16.1, P16.2: of different places; one that is heard again changes nothing; who comes behind it is heard, and tells nothing new
	for _, c := range choirs() {
		for _, row := range rows(c) {
			l := begin(t, c, 4)
			for i, place := range row {
				is(t, 2*i < int(c) && 2*(i+1) > int(c))(l.Hear(place, of(3, 1), say("hi")))
				was := l.Copy()
				for _, again := range row[:i+1] {
					is(t, false)(l.Hear(again, of(3, 1), say("hi")))
				}
				if !learner.Same(was, l) {
					t.Fatal("who was heard already changed something")
				}
				heardOf(t, l, by(of(3, 1), say("hi"), sorted(row[:i+1])...))
				if 2*(i+1) > int(c) {
					knows(t, l, say("hi"))
				} else {
					unknown(t, l)
				}
			}
		}
	}
}

func TestEachSlotAndBallot(t *testing.T) { // P16.1: by each ballot that may speak for the slot it is chosen
	for _, c := range choirs() {
		chosenBy := func(slot int, b api.Ballot) {
			t.Helper()
			l, least := begin(t, c, slot), int(c)/2+1
			for place := range least {
				is(t, place == least-1)(l.Hear(place, b, say("hi")))
			}
			knows(t, l, say("hi"))
		}
		owner := 0
		for slot := range 4096 {
			chosenBy(slot, of(0, owner))
			if owner++; owner == int(c) {
				owner = 0
			}
		}
		for _, slot := range someSlots() {
			for _, b := range speak(c, slot, 1, 2, 3, 255, 256, 1<<16, top-1, top) {
				chosenBy(slot, b)
			}
		}
	}
}

func TestEachEntry(t *testing.T) { // P16.1, P16.2: as it was heard, or told, whatever it is
	for _, c := range choirs() {
		for _, e := range rightOnes() {
			heard, told := begin(t, c, 1), begin(t, c, 1)
			for place := range int(c)/2 + 1 {
				is(t, place == int(c)/2)(heard.Hear(place, of(2, 0), e))
			}
			knows(t, heard, e)
			is(t, true)(told.Told(e))
			knows(t, told, e)
			heardOf(t, told)
			is(t, false)(told.Told(e))
			is(t, false)(heard.Told(e))
		}
	}
}

func TestVotesOfOneBallot(t *testing.T) { // P16.1: those by other ballots do not count, also of the same entry
	for _, c := range choirs() {
		rising := speak(c, 4, 1, 2, top)
		l := begin(t, c, 4)
		var all []api.Heard
		for i, b := range rising {
			all = append(all, by(b, say("hi")))
			for j := range int(c) / 2 { // one less than a majority
				place := (i + j) % int(c)
				all[i].Places = append(all[i].Places, place)
				is(t, false)(l.Hear(place, b, say("hi")))
			}
			slices.Sort(all[i].Places)
		}
		unknown(t, l)
		heardOf(t, l, all...)
		last := len(rising) / 2
		is(t, true)(l.Hear((last+int(c)/2)%int(c), rising[last], say("hi")))
		knows(t, l, say("hi"))
		is(t, false)(l.Hear((last+1+int(c)/2)%int(c), rising[last+1], say("hi"))) // chosen by a second ballot, it is known already
		knows(t, l, say("hi"))
	}
}

func TestOtherEntriesOfOtherBallots(t *testing.T) { // P16.1: each ballot has an entry of its own; what is chosen is that of the majority's
	for _, c := range choirs() {
		rising := speak(c, 4, 1, 2)
		entries := rightOnes()
		for winner, b := range rising {
			l := begin(t, c, 4)
			for i, other := range rising {
				for place := range int(c) / 2 {
					is(t, false)(l.Hear(place, other, entries[i]))
				}
			}
			is(t, true)(l.Hear(int(c)-1, b, entries[winner]))
			knows(t, l, entries[winner])
		}
	}
}

func TestHeardIsInOrder(t *testing.T) { // P16.2: ballots rise, in whatever order they were heard; so do places
	mix := rand.New(rand.NewSource(16))
	for _, c := range choirs() {
		rising := speak(c, 7, 1, 2, 3, 255, 256, 1<<16, top-1, top)
		for range 30 {
			l := begin(t, c, 7)
			want := make([]api.Heard, len(rising))
			for _, i := range mix.Perm(len(rising)) {
				places := mix.Perm(int(c))[:1+mix.Intn(int(c)/2)]
				for _, place := range places {
					is(t, false)(l.Hear(place, rising[i], say("hi")))
				}
				want[i] = by(rising[i], say("hi"), sorted(places)...)
			}
			for range 3 { // at each call
				heardOf(t, l, want...)
			}
		}
	}
}

func TestTold(t *testing.T) { // P16.1: also against what a minority accepted; an entry that may not be is refused
	for _, c := range choirs() {
		l := begin(t, c, 4)
		for place := range int(c) / 2 {
			is(t, false)(l.Hear(place, of(1, 0), say("ho")))
		}
		heard := by(of(1, 0), say("ho"), []int{0, 1, 2, 3}[:int(c)/2]...)
		for _, e := range wrongOnes() {
			refused(t, api.ErrArg)(l.Told(e))
		}
		unknown(t, l)
		is(t, true)(l.Told(say("hi")))
		is(t, false)(l.Told(say("hi")))
		for _, e := range wrongOnes() {
			refused(t, api.ErrArg)(l.Told(e)) // ahead of ErrClash
		}
		knows(t, l, say("hi"))
		heardOf(t, l, heard)
	}
}

func TestToldOther(t *testing.T) { // P16.1: ErrClash, of each two entries; nothing changes
	for _, e := range rightOnes() {
		for _, other := range rightOnes() {
			told, heard := begin(t, 3, 1), begin(t, 3, 1)
			is(t, true)(told.Told(e))
			is(t, false)(heard.Hear(0, of(0, 1), e))
			is(t, true)(heard.Hear(1, of(0, 1), e))
			for _, l := range []*learner.Learner{told, heard} {
				was := l.Copy()
				if other == e {
					is(t, false)(l.Told(other))
				} else {
					refused(t, api.ErrClash)(l.Told(other))
				}
				if !learner.Same(l, was) {
					t.Fatalf("told %v behind %v, it changed", other, e)
				}
				knows(t, l, e)
			}
		}
	}
}

func TestSkipped(t *testing.T) { // P16.1: nothing is chosen, also against what a minority accepted; something else that is known clashes
	for _, c := range choirs() {
		l := begin(t, c, 4)
		is(t, true)(l.Skipped())
		knows(t, l, none())
		heardOf(t, l)
		is(t, false)(l.Skipped())
		is(t, false)(l.Told(none()))
		refused(t, api.ErrClash)(l.Told(say("hi")))
		knows(t, l, none())

		l = begin(t, c, 4)
		is(t, true)(l.Told(none()))
		is(t, false)(l.Skipped())
		knows(t, l, none())
	}
	for _, e := range rightOnes()[1:] {
		l := begin(t, 5, 1)
		is(t, false)(l.Hear(0, of(0, 1), e))
		is(t, false)(l.Hear(1, of(0, 1), e))
		early := l.Copy()
		is(t, true)(early.Skipped())
		knows(t, early, none())
		heardOf(t, early, by(of(0, 1), e, 0, 1))
		is(t, true)(l.Hear(2, of(0, 1), e))
		refused(t, api.ErrClash)(l.Skipped())
		knows(t, l, e)
		heardOf(t, l, by(of(0, 1), e, 0, 1, 2))
	}
}

func TestOtherEntryOfOneBallot(t *testing.T) { // P16.1: ErrClash, of each two entries, whoever accepts it, whatever is known; nothing changes
	for _, e := range rightOnes() {
		for _, other := range rightOnes() {
			if other == e {
				continue
			}
			for place := range 3 {
				l, told := begin(t, 3, 1), begin(t, 3, 1)
				is(t, false)(l.Hear(1, of(2, 0), e))
				is(t, false)(told.Hear(1, of(2, 0), e))
				is(t, true)(told.Told(other))
				for _, l := range []*learner.Learner{l, told} {
					was := l.Copy()
					refused(t, api.ErrClash)(l.Hear(place, of(2, 0), other))
					if !learner.Same(l, was) {
						t.Fatalf("%v, then %v: it changed", e, other)
					}
					heardOf(t, l, by(of(2, 0), e, 1))
				}
				unknown(t, l)
				knows(t, told, other)
				is(t, place != 1)(l.Hear(place, of(2, 0), e))
			}
		}
	}
}

func TestMajorityOfOther(t *testing.T) { // P16.1: ErrClash, as often as it is heard, whoever makes it one; less than a majority is heard
	for _, c := range choirs() {
		for _, row := range rows(c)[:10] {
			told, skipped, heard := begin(t, c, 4), begin(t, c, 4), begin(t, c, 4)
			is(t, true)(told.Told(say("hi")))
			is(t, true)(skipped.Skipped())
			for i, place := range row[:int(c)/2+1] {
				is(t, i == int(c)/2)(heard.Hear(place, of(1, 0), say("hi")))
			}
			for _, l := range []*learner.Learner{told, skipped, heard} {
				known, _ := l.Chosen()
				few := row[int(c)/2+1:] // one less than a majority
				for range 2 {
					for _, place := range few {
						is(t, false)(l.Hear(place, of(2, 1), say("ho")))
					}
				}
				was := l.Copy()
				for range 2 {
					for _, place := range row[:int(c)/2+1] {
						refused(t, api.ErrClash)(l.Hear(place, of(2, 1), say("ho")))
						if !learner.Same(l, was) {
							t.Fatal("what clashes changed it")
						}
					}
				}
				knows(t, l, known)
				if got := l.Heard(); !alike(got[len(got)-1], by(of(2, 1), say("ho"), sorted(few)...)) {
					t.Fatalf("heard was %v", got)
				}
			}
		}
	}
}

func TestClashIsNotKept(t *testing.T) { // P16.1: nothing changes then: a ballot by which nothing was heard but what clashed has no entry
	l := begin(t, 3, 1)
	is(t, false)(l.Hear(0, of(1, 0), say("hi")))
	refused(t, api.ErrClash)(l.Hear(1, of(1, 0), say("ho")))
	is(t, false)(l.Hear(1, of(1, 1), say("ho")))
	is(t, true)(l.Hear(2, of(1, 0), say("hi")))
	refused(t, api.ErrClash)(l.Hear(0, of(1, 1), say("ho")))
	is(t, false)(l.Hear(1, of(1, 0), say("hi")))
	heardOf(t, l, by(of(1, 0), say("hi"), 0, 1, 2), by(of(1, 1), say("ho"), 1))
	knows(t, l, say("hi"))
}

// standing are learners of 3, slot 1, each made anew: that heard nothing, less than a majority, a majority, that were told.
func standing(t *testing.T) []*learner.Learner {
	var all []*learner.Learner
	for range 6 {
		all = append(all, begin(t, 3, 1))
	}
	all[1].Hear(0, of(1, 0), say("hi"))
	all[2].Hear(0, of(0, 1), say("hi"))
	all[2].Hear(2, of(0, 1), say("hi"))
	all[3].Told(say("hi"))
	all[4].Skipped()
	all[5].Hear(1, of(1, 0), say("ho"))
	all[5].Hear(2, of(2, 2), none())
	all[5].Told(say("hi"))
	return all
}

// unchanged asks whether a wrong call is refused, however a learner stands, and changes nothing.
func unchanged(t *testing.T, call func(*learner.Learner) (bool, api.Errno)) {
	t.Helper()
	for _, l := range standing(t) {
		was := l.Copy()
		refused(t, api.ErrArg)(call(l))
		if !learner.Same(l, was) {
			t.Fatalf("it is %v, behind %v", l.Heard(), was.Heard())
		}
	}
}

func TestNoPlace(t *testing.T) { // P16.1: ErrArg, ahead of ErrClash
	for _, place := range noPlaces(3) {
		unchanged(t, func(l *learner.Learner) (bool, api.Errno) { return l.Hear(place, of(1, 0), say("hi")) })
		unchanged(t, func(l *learner.Learner) (bool, api.Errno) { return l.Hear(place, of(0, 1), say("no")) })
	}
	for _, c := range choirs() {
		l := begin(t, c, 1)
		for _, place := range noPlaces(c) {
			refused(t, api.ErrArg)(l.Hear(place, of(1, 0), none()))
		}
		for place := range int(c) {
			is(t, place == int(c)/2)(l.Hear(place, of(1, 0), none()))
		}
	}
}

func TestNoBallot(t *testing.T) { // P16.1: one that may not speak for the slot: ErrArg, ahead of ErrClash
	for _, b := range append(mute(3, 1), api.Ballot{}) {
		unchanged(t, func(l *learner.Learner) (bool, api.Errno) { return l.Hear(0, b, say("hi")) })
		unchanged(t, func(l *learner.Learner) (bool, api.Errno) { return l.Hear(2, b, none()) })
	}
	for _, c := range choirs() {
		for _, slot := range someSlots() {
			l := begin(t, c, slot)
			for _, b := range mute(c, slot) {
				refused(t, api.ErrArg)(l.Hear(0, b, none()))
			}
			unknown(t, l)
			heardOf(t, l)
		}
	}
}

func TestNoEntry(t *testing.T) { // P16.1: one that may not be: ErrArg, ahead of ErrClash
	for _, e := range wrongOnes() {
		for place := range 3 {
			unchanged(t, func(l *learner.Learner) (bool, api.Errno) { return l.Hear(place, of(1, 0), e) })
			unchanged(t, func(l *learner.Learner) (bool, api.Errno) { return l.Hear(place, of(0, 1), e) })
			unchanged(t, func(l *learner.Learner) (bool, api.Errno) { return l.Hear(place, of(2, 2), e) })
		}
		unchanged(t, func(l *learner.Learner) (bool, api.Errno) { return l.Told(e) })
	}
}

func TestNoLearner(t *testing.T) { // P16.1, P16.2: nil ones, and such as no call made: ErrNil, ahead of ErrArg
	noChoir, _ := learner.New(4, 1)
	noSlot, _ := learner.New(3, -1)
	for _, l := range []*learner.Learner{nil, {}, noChoir, noSlot} {
		for _, place := range append(noPlaces(3), 0, 1, 2) {
			refused(t, api.ErrNil)(l.Hear(place, of(0, 0), none()))
			refused(t, api.ErrNil)(l.Hear(place, of(1, 0), say("hi")))
			refused(t, api.ErrNil)(l.Hear(place, no(), say("hi")))
			refused(t, api.ErrNil)(l.Hear(place, of(1, 0), api.Entry{}))
		}
		for range 2 {
			refused(t, api.ErrNil)(l.Told(none()))
			refused(t, api.ErrNil)(l.Told(api.Entry{}))
			refused(t, api.ErrNil)(l.Skipped())
		}
		unknown(t, l)
		heardOf(t, l)
		if l.Copy() != nil {
			t.Error("there is a copy of none")
		}
	}
}

func TestCopy(t *testing.T) { // P16.2: another one of the same, that goes on apart
	for i := range standing(t) {
		l, was := standing(t)[i], standing(t)[i]
		other := l.Copy()
		if other == nil || other == l || !learner.Same(l, other) {
			t.Fatalf("another one of %v: %v", l.Heard(), other)
		}
		for place := range 3 {
			other.Hear(place, of(1, 0), say("hi"))
			other.Hear(place, of(3, 0), none())
			other.Told(say("hi"))
			if !learner.Same(l, was) {
				t.Fatalf("%v became %v", was.Heard(), l.Heard())
			}
		}
		other = l.Copy()
		l.Hear(1, of(3, 1), say("hi"))
		l.Hear(2, of(1, 0), say("hi"))
		l.Skipped()
		if learner.Same(l, was) || !learner.Same(other, was) {
			t.Fatalf("%v became %v", was.Heard(), other.Heard())
		}
	}
}

func TestCopyKnowsWhatWasHeard(t *testing.T) { // P16.2: what was heard ahead of the copy counts, and which choir, which slot it is of
	for _, c := range choirs() {
		for _, slot := range someSlots() {
			l := begin(t, c, slot)
			for place := range int(c) / 2 {
				is(t, false)(l.Hear(place, of(5, 1), say("hi")))
			}
			other := l.Copy()
			refused(t, api.ErrClash)(other.Hear(0, of(5, 1), say("ho")))
			for _, b := range mute(c, slot) {
				refused(t, api.ErrArg)(other.Hear(0, b, say("hi")))
			}
			is(t, false)(other.Hear(0, speak(c, slot)[0], say("hi")))
			is(t, true)(other.Hear(int(c)-1, of(5, 1), say("hi")))
			unknown(t, l)
		}
	}
}

// said is what a learner is told: 'h' that a place accepted, 't' what is chosen, 's' that the owner skips.
type said struct {
	what  byte
	place int
	b     api.Ballot
	e     api.Entry
}

func hear(place int, b api.Ballot, e api.Entry) said { return said{'h', place, b, e} }
func told(e api.Entry) said                          { return said{what: 't', e: e} }
func skip() said                                     { return said{what: 's', e: none()} }

// tell tells a learner all that, and what it answers last.
func tell(l *learner.Learner, all ...said) (news bool, e api.Errno) {
	for _, s := range all {
		switch s.what {
		case 'h':
			news, e = l.Hear(s.place, s.b, s.e)
		case 't':
			news, e = l.Told(s.e)
		case 's':
			news, e = l.Skipped()
		}
	}
	return news, e
}

func TestSame(t *testing.T) { // P16.2: the same choir, slot, and state: what is chosen, each ballot, its entry, its places
	ways := [][]said{
		{},
		{told(none())},
		{told(say("hi"))},
		{told(say("ho"))},
		{told(api.Entry{Kind: api.EntryJoin, Member: 2})},
		{told(api.Entry{Kind: api.EntryLeave, Member: 2})},
		{told(api.Entry{Kind: api.EntrySay, Member: 3, Number: 1, Text: "hi"})},
		{told(api.Entry{Kind: api.EntrySay, Member: 2, Number: 2, Text: "hi"})},
		{hear(0, of(1, 0), say("hi"))},
		{hear(1, of(1, 0), say("hi"))},
		{hear(2, of(1, 0), say("hi"))},
		{hear(0, of(1, 1), say("hi"))},
		{hear(0, of(2, 0), say("hi"))},
		{hear(0, of(1, 0), say("ho"))},
		{hear(0, of(1, 0), none())},
		{hear(0, of(1, 0), api.Entry{Kind: api.EntrySay, Member: 3, Number: 1, Text: "hi"})},
		{hear(0, of(1, 0), api.Entry{Kind: api.EntrySay, Member: 2, Number: 2, Text: "hi"})},
		{hear(0, of(1, 0), say("hi")), told(none())},
		{hear(0, of(1, 0), say("hi")), told(say("hi"))},
		{hear(0, of(1, 0), say("hi")), hear(0, of(2, 0), say("hi"))},
		{hear(0, of(1, 0), say("hi")), hear(1, of(2, 0), say("hi"))},
		{hear(0, of(1, 0), say("hi")), hear(0, of(2, 0), say("ho"))},
		{hear(0, of(1, 0), say("hi")), hear(0, of(2, 0), say("hi")), hear(0, of(3, 0), say("hi"))},
	}
	made := func() []*learner.Learner {
		var all []*learner.Learner
		for _, c := range []api.Choir{3, 9} {
			for _, slot := range []int{1, 10, 4} { // 1 and 10 have one owner in both choirs, 1 and 4 in one
				for _, way := range ways {
					l := begin(t, c, slot)
					tell(l, way...)
					all = append(all, l)
				}
			}
		}
		for _, way := range [][]said{
			{hear(0, of(1, 0), say("hi")), hear(1, of(1, 0), say("hi"))},
			{hear(0, of(1, 0), say("hi")), hear(2, of(1, 0), say("hi"))},
			{hear(2, of(1, 0), say("hi")), hear(1, of(1, 0), say("hi"))},
			{hear(0, of(1, 0), say("hi")), hear(1, of(1, 0), say("hi")), hear(2, of(1, 0), say("hi"))},
			{hear(0, of(2, 0), say("hi")), hear(1, of(2, 0), say("hi"))},
			{hear(0, of(2, 0), say("hi")), hear(1, of(2, 0), say("hi")), hear(1, of(1, 0), say("ho"))},
		} {
			l := begin(t, 3, 1)
			tell(l, way...)
			all = append(all, l)
		}
		return all
	}
	ones, others := made(), made()
	for i, a := range ones {
		for j, b := range others {
			if learner.Same(a, b) != (i == j) {
				t.Fatalf("Same(%v, %v) = %v, %d and %d", a.Heard(), b.Heard(), i != j, i, j)
			}
		}
	}
}

func TestSameHoweverItCame(t *testing.T) { // P16.2: in whatever order, doubled, told or heard, with what was refused between
	hi, ho := say("hi"), say("ho")
	a, b := begin(t, 3, 1), begin(t, 3, 1)
	tell(a, hear(0, of(1, 0), hi), hear(2, of(2, 1), ho), hear(2, of(1, 0), hi))
	tell(b, hear(2, of(2, 1), ho), hear(3, of(2, 1), ho), hear(2, of(1, 0), hi), hear(2, of(2, 1), hi), hear(0, of(0, 0), hi), told(hi), told(ho), skip())
	if learner.Same(a, b) || learner.Same(b, a) {
		t.Error("one place less accepted")
	}
	tell(b, hear(0, of(1, 0), hi), hear(0, of(2, 1), ho), hear(2, of(2, 1), ho))
	if !learner.Same(a, b) || !learner.Same(b, a) || !learner.Same(a, a) {
		t.Errorf("%v and %v", a.Heard(), b.Heard())
	}
	a, b = begin(t, 3, 1), begin(t, 3, 1)
	tell(a, skip())
	tell(b, told(none()))
	if !learner.Same(a, b) {
		t.Error("who was told that the owner skips is not like who was told nothing")
	}
}

func TestSameNil(t *testing.T) { // P16.2: a nil one is like a nil one alone
	nobody := []*learner.Learner{nil, {}}
	for _, a := range nobody {
		for _, b := range nobody {
			if !learner.Same(a, b) {
				t.Error("nil ones are not the same")
			}
		}
		for _, b := range append(standing(t), begin(t, 3, 0), begin(t, 9, 0)) {
			if learner.Same(a, b) || learner.Same(b, a) {
				t.Errorf("%v is like a nil one", b.Heard())
			}
		}
	}
}

// fresh is a text whose bytes may be changed behind it.
func fresh(text string) (string, []byte) {
	b := []byte(text)
	return unsafe.String(&b[0], len(b)), b
}

func TestTextIsNotKept(t *testing.T) { // what is handed in is not kept
	text, b := fresh("hi there")
	heard, chosen, told := begin(t, 3, 1), begin(t, 3, 1), begin(t, 3, 1)
	is(t, false)(heard.Hear(0, of(1, 0), say(text)))
	is(t, false)(chosen.Hear(0, of(1, 0), say(text)))
	is(t, true)(chosen.Hear(1, of(1, 0), say(text)))
	is(t, true)(told.Told(say(text)))
	is(t, false)(told.Told(say(text)))
	copy(b, "ho")
	heardOf(t, heard, by(of(1, 0), say("hi there"), 0))
	is(t, true)(heard.Hear(1, of(1, 0), say("hi there")))
	heardOf(t, chosen, by(of(1, 0), say("hi there"), 0, 1))
	knows(t, chosen, say("hi there"))
	knows(t, told, say("hi there"))
}

func TestAnswersAreNew(t *testing.T) { // an answer shares no memory with another one, nor within itself, nor with a copy's
	hi := say("hi there")
	l := begin(t, 3, 1)
	tell(l, hear(2, of(1, 0), hi), hear(1, of(1, 0), hi), hear(0, of(2, 0), hi), hear(1, of(3, 0), say("ho")))
	want := []api.Heard{by(of(1, 0), hi, 1, 2), by(of(2, 0), hi, 0), by(of(3, 0), say("ho"), 1)}
	texts, places := map[*byte]int{}, map[*int]int{}
	all := []*learner.Learner{l, l, l.Copy(), l.Copy().Copy()}
	for _, m := range all {
		e, _ := m.Chosen()
		texts[unsafe.StringData(e.Text)]++
		for _, h := range m.Heard() {
			texts[unsafe.StringData(h.Entry.Text)]++
			places[&h.Places[0]]++
			h.Places[0] = 7
			if cap(h.Places) > len(h.Places) {
				_ = append(h.Places, 8)
			}
		}
		for _, n := range all {
			heardOf(t, n, want...)
		}
	}
	if len(texts) != 16 || len(places) != 12 {
		t.Errorf("16 entries have %d texts, 12 lists %d beginnings", len(texts), len(places))
	}
}

// book is a learner as the chapter's words tell it; rising are the ballots in their order.
type book struct {
	choir  api.Choir
	rising []api.Ballot
	heard  []said
	known  []api.Entry // one at most
}

// hears writes down what a right call changes, and tells what it answers.
func (k *book) hears(s said) (bool, api.Errno) {
	chosen := s.what != 'h'
	if !chosen {
		places := map[int]bool{s.place: true}
		for _, h := range k.heard {
			if h.b == s.b && h.e != s.e {
				return false, api.ErrClash
			}
			if h.b == s.b {
				places[h.place] = true
			}
		}
		chosen = 2*len(places) > int(k.choir)
	}
	if chosen && len(k.known) == 1 && k.known[0] != s.e {
		return false, api.ErrClash
	}
	if s.what == 'h' {
		k.heard = append(k.heard, s)
	}
	if chosen && len(k.known) == 0 {
		k.known = []api.Entry{s.e}
		return true, api.OK
	}
	return false, api.OK
}

// all is what was heard, by ballots, by places.
func (k *book) all() []api.Heard {
	var all []api.Heard
	for _, b := range k.rising {
		var one api.Heard
		for place := range int(k.choir) {
			for _, h := range k.heard {
				if h.b == b && h.place == place && !slices.Contains(one.Places, place) {
					one = by(b, h.e, append(one.Places, place)...)
				}
			}
		}
		if one.Places != nil {
			all = append(all, one)
		}
	}
	return all
}

func (k *book) copy() *book {
	return &book{k.choir, k.rising, slices.Clone(k.heard), slices.Clone(k.known)}
}

// follows lets a learner and a book hear the same, and holds them against each other, and what P16.3 says.
func follows(t *testing.T, l *learner.Learner, k *book, s said) {
	t.Helper()
	was := l.Copy()
	known, is := l.Chosen()
	want, why := k.hears(s)
	if news, e := tell(l, s); news != want || e != why {
		t.Fatalf("behind %v, %v: %v, %v, not %v, %v", k.heard, s, news, e, want, why)
	}
	if why != api.OK && !learner.Same(l, was) {
		t.Fatalf("behind %v, %v clashed, and changed it", k.heard, s)
	}
	if now, still := l.Chosen(); is && (!still || now != known) {
		t.Fatalf("behind %v, %v: what is chosen did not stay", k.heard, s)
	}
	if len(k.known) == 0 {
		unknown(t, l)
	} else {
		knows(t, l, k.known[0])
	}
	heardOf(t, l, k.all()...)
}

func TestAllShortTalks(t *testing.T) { // P16.1, P16.2, P16.3: whatever is heard, four times
	rising := speak(3, 1, 1, 2)
	some := []said{told(say("hi")), told(none()), skip()}
	for place := range 3 {
		for _, b := range []api.Ballot{of(0, 1), of(1, 0), of(2, 2)} {
			some = append(some, hear(place, b, say("hi")), hear(place, b, none()))
		}
	}
	var on func(l *learner.Learner, k *book, more int)
	on = func(l *learner.Learner, k *book, more int) {
		for _, s := range some {
			m, n := l.Copy(), k.copy()
			follows(t, m, n, s)
			if more > 1 {
				on(m, n, more-1)
			}
		}
	}
	on(begin(t, 3, 1), &book{choir: 3, rising: rising}, 4)
}

func TestLongTalks(t *testing.T) { // P16.1, P16.2, P16.3: of all choirs, all slots, ballots up to the top
	mix := rand.New(rand.NewSource(17))
	entries := rightOnes()
	for _, c := range choirs() {
		for range 400 {
			slot := mix.Intn(4096)
			rising := speak(c, slot, 1, 2, top-1, top)
			l, k := begin(t, c, slot), &book{choir: c, rising: rising}
			few := entries[mix.Intn(len(entries)-2):][:2]
			for range mix.Intn(6 * int(c)) {
				s := hear(mix.Intn(int(c)), rising[mix.Intn(1+mix.Intn(len(rising)))], few[mix.Intn(10)/9])
				switch mix.Intn(40) {
				case 0:
					s = told(few[mix.Intn(2)])
				case 1:
					s = skip()
				}
				follows(t, l, k, s)
			}
		}
	}
}

func TestWhatIsChosenStays(t *testing.T) { // P16.3: whatever is called, also such as may not be: what is refused changes nothing
	mix := rand.New(rand.NewSource(18))
	entries := append(rightOnes()[:4], slices.Concat(slices.Repeat(rightOnes()[:2], 20), wrongOnes()[:12])...)
	for _, c := range choirs() {
		ballots := append(mute(c, 4), slices.Repeat(speak(c, 4, 1), 20)...)
		places := append(noPlaces(c), slices.Repeat([]int{0, 1, 2}, 20)...)
		for range 150 {
			l := begin(t, c, 4)
			for range 60 {
				was := l.Copy()
				known, is := l.Chosen()
				s := hear(places[mix.Intn(len(places))], ballots[mix.Intn(len(ballots))], entries[mix.Intn(len(entries))])
				switch mix.Intn(60) {
				case 0:
					s.what = 't'
				case 1:
					s.what = 's'
				}
				news, e := tell(l, s)
				now, still := l.Chosen()
				switch {
				case e != api.OK && !learner.Same(l, was):
					t.Fatalf("%v was refused, and changed %v to %v", s, was.Heard(), l.Heard())
				case is && (!still || now != known || news):
					t.Fatalf("%v: %v, %v behind %v", s, now, news, known)
				case news != (still && !is):
					t.Fatalf("%v: %v, but %v, %v is chosen behind %v", s, news, now, still, is)
				}
			}
		}
	}
}

func TestManyBallots(t *testing.T) { // P16.2: as many as are heard, none of them is let go
	l := begin(t, 9, 4095)
	var want []api.Heard
	for round := int64(1); round <= 300; round++ {
		for place := range 9 {
			is(t, false)(l.Hear(place, of(round, place), api.Entry{Kind: api.EntrySay, Member: place, Number: round, Text: fmt.Sprint(round)}))
			want = append(want, by(of(round, place), api.Entry{Kind: api.EntrySay, Member: place, Number: round, Text: fmt.Sprint(round)}, place))
		}
	}
	heardOf(t, l, want...)
	heardOf(t, l.Copy(), want...)
}
