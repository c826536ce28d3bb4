package proposer_test

import (
	"math"
	"math/rand"
	"slices"
	"strings"
	"testing"
	"unsafe"

	"antiphon/api"
	"antiphon/proposer"
)

const top = 1<<31 - 1 // MaxNumber

// choirs are all that may be.
func choirs() []api.Choir { return []api.Choir{3, 5, 7, 9} }

// noChoirs are some that may not be: near ones, far ones, such as are like a choir by their lowest bits.
func noChoirs() []api.Choir {
	all := []api.Choir{math.MinInt, math.MinInt + 1, math.MaxInt - 1, math.MaxInt, math.MinInt32, math.MaxInt32}
	for _, c := range []api.Choir{0, 1, 3, 5, 7, 9} {
		all = append(all, -c-1, -c-3, c+1<<32, c-1<<32, c+1<<16, c+1<<8, c+1<<62)
	}
	for c := api.Choir(-12); c <= 20; c++ {
		if !slices.Contains(choirs(), c) {
			all = append(all, c)
		}
	}
	return all
}

// huge are numbers that are no place, no slot, no member.
func huge() []int {
	return []int{math.MinInt, math.MinInt + 1, math.MinInt32, -1 << 32, 1<<32 - 1, 1 << 32, 1<<32 + 1, 1 << 62, -1 << 62, 1 << 16, -1 << 16, math.MaxInt32, math.MaxInt - 1, math.MaxInt}
}

func noSlots() []int { return append(huge(), -4096, -9, -3, -1, 4096, 4097, 4099, 8192) }

// noPlaces are numbers that are none of a choir's.
func noPlaces(c api.Choir) []int {
	return append(huge(), -int(c), -2, -1, int(c), int(c)+1, 2*int(c), 16, 64, 256)
}

// someSlots are the first ones, so that each place owns some, such as are near powers of two, and the last ones.
func someSlots() []int {
	return []int{0, 1, 2, 3, 4, 5, 6, 7, 8, 9, 10, 254, 255, 256, 2047, 2048, 4093, 4094, 4095}
}

// no is no ballot.
func no() api.Ballot { return api.Ballot{Round: -1} }

func of(round int64, place int) api.Ballot { return api.Ballot{Round: round, Place: place} }

// by is an entry that was accepted by a ballot.
func by(b api.Ballot, e api.Entry) api.Accepted { return api.Accepted{Ballot: b, Entry: e} }

// nothing is what is told by who accepted nothing.
func nothing() api.Accepted { return api.Accepted{Ballot: no()} }

// speak are the ballots of some rounds that may speak for a slot, each lesser one ahead of each greater, told one by one: in round 0 the owner's alone.
func speak(c api.Choir, slot int, rounds ...int64) []api.Ballot {
	owner := 0
	for range slot {
		if owner++; owner == int(c) {
			owner = 0
		}
	}
	all := []api.Ballot{of(0, owner)}
	for _, round := range rounds {
		for place := range int(c) {
			all = append(all, of(round, place))
		}
	}
	return all
}

// mute are some that may not speak for a slot: no ballot, such as are no choir's, those of round 0 of others than the owner.
func mute(c api.Choir, slot int) []api.Ballot {
	owner := speak(c, slot)[0].Place
	all := []api.Ballot{no()}
	for place := range int(c) {
		if place != owner {
			all = append(all, of(0, place))
		}
		for _, round := range []int64{math.MinInt64, math.MinInt64 + 1, -top - 1, -top, -1 << 32, -2, -1, top + 1, top + 2, 1 << 32, 1<<32 + 1, math.MaxInt64 - 1, math.MaxInt64} {
			all = append(all, of(round, place))
		}
	}
	for _, place := range noPlaces(c) {
		for _, round := range []int64{-1, 0, 1, 2, top, top + 1} {
			all = append(all, of(round, place))
		}
	}
	return all
}

func none() api.Entry { return api.Entry{Kind: api.EntryNone} }

func say(text string) api.Entry {
	return api.Entry{Kind: api.EntrySay, Member: 2, Number: 1, Text: text}
}

// rightOnes are entries that may be, all of them different.
func rightOnes() []api.Entry {
	all := []api.Entry{none()}
	for _, member := range []int{0, 1, 7, 15} {
		all = append(all, api.Entry{Kind: api.EntryJoin, Member: member}, api.Entry{Kind: api.EntryLeave, Member: member})
		for _, number := range []int64{1, 2, 256, top - 1, top} {
			all = append(all, api.Entry{Kind: api.EntrySay, Member: member, Number: number, Text: "hi"})
		}
	}
	for i, text := range []string{"a", "hi there", "é", "\U0010ffff", "@ann hi", strings.Repeat("a", 200)} {
		all = append(all, api.Entry{Kind: api.EntrySay, Member: i, Number: int64(i + 1), Text: text})
	}
	return all
}

// wrongOnes are entries that may not be.
func wrongOnes() []api.Entry {
	all := []api.Entry{{}, {Member: 1}, {Number: 1}, {Text: "hi"}}
	for _, kind := range []api.EntryKind{math.MinInt, -1, 0, 5, 1<<32 + 1, math.MaxInt} {
		all = append(all, api.Entry{Kind: kind}, api.Entry{Kind: kind, Member: 2, Number: 1, Text: "hi"})
	}
	for _, kind := range []api.EntryKind{api.EntryNone, api.EntryJoin, api.EntryLeave} {
		all = append(all, api.Entry{Kind: kind, Member: 16}, api.Entry{Kind: kind, Member: -1}, api.Entry{Kind: kind, Number: 1}, api.Entry{Kind: kind, Text: "hi"})
	}
	for _, member := range []int{math.MinInt, -1, 16, 1 << 32, math.MaxInt} {
		all = append(all, api.Entry{Kind: api.EntrySay, Member: member, Number: 1, Text: "hi"})
	}
	for _, number := range []int64{math.MinInt64, -1, 0, top + 1, 1<<32 + 1, math.MaxInt64} {
		all = append(all, api.Entry{Kind: api.EntrySay, Member: 2, Number: number, Text: "hi"})
	}
	for _, text := range []string{"", " ", " a", "a ", "a\n", "\x00", "\xff", strings.Repeat("a", 201), strings.Repeat("a", 1<<20+1)} {
		all = append(all, say(text))
	}
	return all
}

func owns(t *testing.T, c api.Choir, slot int, entry api.Entry) *proposer.Proposer {
	t.Helper()
	p, e := proposer.Own(c, slot, entry)
	if p == nil || e != api.OK {
		t.Fatalf("Own(%d, %d, %v) = %v, %v", c, slot, entry, p, e)
	}
	return p
}

func asks(t *testing.T, c api.Choir, slot int, b api.Ballot) *proposer.Proposer {
	t.Helper()
	p, e := proposer.Ask(c, slot, b)
	if p == nil || e != api.OK {
		t.Fatalf("Ask(%d, %d, %v) = %v, %v", c, slot, b, p, e)
	}
	return p
}

// gives is a proposer that asked, and was promised by the first places as many as are a majority, all of which had accepted that.
func gives(t *testing.T, c api.Choir, slot int, b api.Ballot, a api.Accepted) *proposer.Proposer {
	t.Helper()
	p := asks(t, c, slot, b)
	for place := range int(c)/2 + 1 {
		p.Promised(place, a)
	}
	return p
}

// notMade asks whether a proposer was refused.
func notMade(t *testing.T, why api.Errno) func(*proposer.Proposer, api.Errno) {
	t.Helper()
	return func(p *proposer.Proposer, e api.Errno) {
		t.Helper()
		if p != nil || e != why {
			t.Fatalf("%v, %v, not %v", p, e, why)
		}
	}
}

// at asks whether a proposer told that phase.
func at(t *testing.T, want api.Phase) func(api.Phase, api.Errno) {
	t.Helper()
	return func(phase api.Phase, e api.Errno) {
		t.Helper()
		if phase != want || e != api.OK {
			t.Fatalf("%v, %v, not %v", phase, e, want)
		}
	}
}

// refused asks whether a call was refused, and no phase told beside.
func refused(t *testing.T, why api.Errno) func(api.Phase, api.Errno) {
	t.Helper()
	return func(phase api.Phase, e api.Errno) {
		t.Helper()
		if phase != 0 || e != why {
			t.Fatalf("%v, %v, not %v", phase, e, why)
		}
	}
}

// stands asks for all that a proposer tells.
func stands(t *testing.T, p *proposer.Proposer, phase api.Phase, b api.Ballot, e api.Entry, above api.Ballot, votes ...int) {
	t.Helper()
	got := p.State()
	if got.Phase != phase || got.Ballot != b || got.Entry != e || got.Above != above || !slices.Equal(got.Votes, votes) {
		t.Fatalf("it is %v, not %v", got, api.Proposing{Phase: phase, Ballot: b, Entry: e, Votes: votes, Above: above})
	}
}

const (
	ask  = api.ProposeAsk
	give = api.ProposeGive
	done = api.ProposeDone
	lost = api.ProposeLost
)

func TestPhases(t *testing.T) { // P15.2: as the chapter numbers them
	if ask != 1 || give != 2 || done != 3 || lost != 4 {
		t.Error(ask, give, done, lost)
	}
}

func TestExamples(t *testing.T) { // P15.1, P15.2, P15.3
	p := owns(t, 3, 1, say("hi"))
	at(t, give)(p.Accepted(0))
	at(t, give)(p.Accepted(0))
	at(t, done)(p.Accepted(2))

	p = asks(t, 3, 1, of(1, 0))
	at(t, ask)(p.Promised(0, nothing()))
	at(t, give)(p.Promised(1, by(of(0, 1), say("hi"))))
	stands(t, p, give, of(1, 0), say("hi"), no())

	p = asks(t, 3, 1, of(1, 0))
	at(t, lost)(p.Refused(2, of(2, 2)))
	at(t, lost)(p.Promised(0, nothing()))
	stands(t, p, lost, of(1, 0), api.Entry{}, of(2, 2))
}

func TestOwn(t *testing.T) { // P15.1: by the owner's ballot, it gives from the beginning on
	for _, c := range choirs() {
		owner := 0
		for slot := range 4096 {
			stands(t, owns(t, c, slot, say("hi")), give, of(0, owner), say("hi"), no())
			if owner++; owner == int(c) {
				owner = 0
			}
		}
		for _, e := range rightOnes() {
			stands(t, owns(t, c, 1, e), give, of(0, 1), e, no())
		}
		for _, e := range wrongOnes() {
			notMade(t, api.ErrArg)(proposer.Own(c, 1, e))
		}
	}
}

func TestAsk(t *testing.T) { // P15.1: by each ballot above round 0, the owner's too
	for _, c := range choirs() {
		for _, slot := range someSlots() {
			for i, b := range speak(c, slot, 1, 2, 3, 255, 256, 1<<16, top-1, top) {
				if i == 0 {
					notMade(t, api.ErrArg)(proposer.Ask(c, slot, b)) // the owner's of round 0 may speak, but not ask
				} else {
					stands(t, asks(t, c, slot, b), ask, b, api.Entry{}, no())
				}
			}
			for _, b := range mute(c, slot) {
				notMade(t, api.ErrArg)(proposer.Ask(c, slot, b))
			}
		}
	}
}

func TestNotMade(t *testing.T) { // P15.1: ErrArg of the choir, then ErrRange, then ErrArg of all else
	entries := []api.Entry{none(), say("hi"), {}, say("")}
	ballots := []api.Ballot{of(1, 0), of(0, 1), no(), of(-1, 3), of(1, 9), of(top+1, 0), {}}
	slots := append(noSlots(), 0, 1, 4095)
	for _, slot := range slots {
		for _, c := range noChoirs() {
			for _, e := range entries {
				notMade(t, api.ErrArg)(proposer.Own(c, slot, e))
			}
			for _, b := range ballots {
				notMade(t, api.ErrArg)(proposer.Ask(c, slot, b))
			}
		}
	}
	for _, slot := range noSlots() {
		for _, c := range choirs() {
			for _, e := range entries {
				notMade(t, api.ErrRange)(proposer.Own(c, slot, e))
			}
			for _, b := range ballots {
				notMade(t, api.ErrRange)(proposer.Ask(c, slot, b))
			}
		}
	}
}

// rows are some ways in which the places of a choir may come in turn.
func rows(c api.Choir) [][]int {
	mix := rand.New(rand.NewSource(int64(c)))
	var all [][]int
	for range 60 {
		all = append(all, mix.Perm(int(c)))
	}
	return all
}

func TestPromisesOfMajority(t *testing.T) { // P15.2: of different places; one that promised already changes nothing, whatever it tells then
	for _, c := range choirs() {
		for _, row := range rows(c) {
			p := asks(t, c, 4, of(3, 1))
			least := (int(c) + 1) / 2
			for i, place := range row[:least] {
				if i == least-1 {
					at(t, give)(p.Promised(place, nothing()))
					break
				}
				at(t, ask)(p.Promised(place, nothing()))
				was := p.Copy()
				for _, again := range row[:i+1] {
					at(t, ask)(p.Promised(again, nothing()))
					at(t, ask)(p.Promised(again, by(of(2, 2), say("no"))))
				}
				if !proposer.Same(was, p) {
					t.Fatal("who promised already changed something")
				}
				stands(t, p, ask, of(3, 1), api.Entry{}, no(), slices.Sorted(slices.Values(row[:i+1]))...)
			}
			stands(t, p, give, of(3, 1), none(), no()) // of what the first ones told first
			for _, place := range row {                // who comes late is not heard
				at(t, give)(p.Promised(place, by(of(2, 2), say("no"))))
				stands(t, p, give, of(3, 1), none(), no())
			}
		}
	}
}

// sayingOf is the entry that was given by a ballot: by each another one.
func sayingOf(b api.Ballot) api.Entry {
	if b.Round == 0 {
		return say("own")
	}
	return api.Entry{Kind: api.EntrySay, Member: b.Place, Number: b.Round, Text: "hi"}
}

// tells are all that a place may tell by some rising ballots.
func tells(rising []api.Ballot) []api.Accepted {
	all := []api.Accepted{nothing()}
	for _, b := range rising {
		all = append(all, by(b, sayingOf(b)))
	}
	return all
}

func TestGivesTheGreatest(t *testing.T) { // P15.2: what was accepted by the greatest ballot among what was told, whoever told it, in whatever order
	rising := speak(3, 1, 1, 2)
	all := tells(rising) // each greater one behind
	for i, first := range all {
		for j, second := range all {
			for _, row := range [][]int{{0, 1}, {1, 0}, {0, 2}, {2, 0}, {1, 2}, {2, 1}} {
				p := asks(t, 3, 1, of(3, 0))
				at(t, ask)(p.Promised(row[0], first))
				at(t, give)(p.Promised(row[1], second))
				want := all[max(i, j)].Entry
				if max(i, j) == 0 {
					want = none()
				}
				stands(t, p, give, of(3, 0), want, no())
			}
		}
	}
}

func TestGivesTheGreatestOfMany(t *testing.T) { // P15.2: of greater choirs, with ballots up to the top
	mix := rand.New(rand.NewSource(15))
	for _, c := range choirs() {
		for _, row := range append(rows(c), rows(c)...) {
			rising := speak(c, 7, 1, 2, top-1)
			all := tells(rising)
			p := asks(t, c, 7, of(top, row[0]))
			most := 0
			for _, place := range row[:(int(c)+1)/2] {
				i := mix.Intn(len(all))
				if mix.Intn(2) == 0 {
					i = mix.Intn(3)
				}
				most = max(most, i)
				p.Promised(place, all[i])
			}
			want := all[most].Entry
			if most == 0 {
				want = none()
			}
			stands(t, p, give, of(top, row[0]), want, no())
		}
	}
}

func TestGivesEachEntry(t *testing.T) { // P15.2: as it was told, whatever it is
	for _, c := range choirs() {
		for _, e := range rightOnes() {
			stands(t, gives(t, c, 1, of(2, 0), by(of(0, 1), e)), give, of(2, 0), e, no())
			stands(t, gives(t, c, 1, of(2, 0), by(of(1, 2), e)), give, of(2, 0), e, no())
		}
	}
}

func TestAcceptedByMajority(t *testing.T) { // P15.2: of different places, the owner's and others' alike
	for _, c := range choirs() {
		for _, row := range rows(c) {
			least := (int(c) + 1) / 2
			for _, p := range []*proposer.Proposer{owns(t, c, 1, say("hi")), gives(t, c, 1, of(2, 0), by(of(1, 1), say("hi")))} {
				b := p.State().Ballot
				for i, place := range row[:least] {
					votes := slices.Sorted(slices.Values(row[:i+1]))
					if i == least-1 {
						at(t, done)(p.Accepted(place))
						stands(t, p, done, b, say("hi"), no(), votes...)
						break
					}
					at(t, give)(p.Accepted(place))
					for _, again := range row[:i+1] {
						at(t, give)(p.Accepted(again))
					}
					stands(t, p, give, b, say("hi"), no(), votes...)
				}
			}
		}
	}
}

func TestAcceptedIsNotHeard(t *testing.T) { // P15.2: at ProposeAsk; nor does who promised accept by that
	p := asks(t, 5, 1, of(1, 0))
	for place := range 5 {
		at(t, ask)(p.Accepted(place))
	}
	if !proposer.Same(p, asks(t, 5, 1, of(1, 0))) {
		t.Error("something was heard")
	}
	at(t, ask)(p.Promised(3, nothing()))
	at(t, ask)(p.Accepted(3))
	at(t, ask)(p.Promised(4, nothing()))
	stands(t, p, ask, of(1, 0), api.Entry{}, no(), 3, 4)
	at(t, give)(p.Promised(0, nothing()))
	stands(t, p, give, of(1, 0), none(), no())
	at(t, give)(p.Accepted(3))
	at(t, give)(p.Accepted(1))
	stands(t, p, give, of(1, 0), none(), no(), 1, 3)
	at(t, done)(p.Accepted(2))
	stands(t, p, done, of(1, 0), none(), no(), 1, 2, 3)
}

func TestRefused(t *testing.T) { // P15.2: one is enough, at both phases, whoever it is, also one that voted; what it promised is told
	for _, c := range choirs() {
		rising := speak(c, 4, 1, 2, top)
		for i, b := range rising {
			for _, above := range rising[i+1:] {
				for place := range int(c) {
					gave := owns(t, c, 4, none())
					if i > 0 {
						asked := asks(t, c, 4, b)
						at(t, ask)(asked.Promised(1, nothing()))
						at(t, lost)(asked.Refused(place, above))
						stands(t, asked, lost, b, api.Entry{}, above) // it never gave: nobody accepted
						gave = gives(t, c, 4, b, nothing())
					}
					at(t, give)(gave.Accepted(1))
					at(t, lost)(gave.Refused(place, above))
					stands(t, gave, lost, b, none(), above, 1)
				}
			}
		}
	}
}

// ends are proposers that hear nothing any more, each made anew.
func ends(t *testing.T) []*proposer.Proposer {
	own, other := owns(t, 3, 1, say("hi")), gives(t, 3, 1, of(2, 0), by(of(1, 2), say("ho")))
	for _, p := range []*proposer.Proposer{own, other} {
		p.Accepted(0)
		p.Accepted(2)
	}
	asked, gave := asks(t, 3, 1, of(2, 0)), gives(t, 3, 1, of(2, 0), nothing())
	for _, p := range []*proposer.Proposer{asked, gave} {
		p.Promised(1, nothing())
		p.Accepted(1)
		p.Refused(0, of(2, 1))
	}
	return []*proposer.Proposer{own, other, asked, gave}
}

func TestNothingIsHeardAnyMore(t *testing.T) { // P15.2, P15.4: at ProposeDone, ProposeLost
	for i, phase := range []api.Phase{done, done, lost, lost} {
		p, was := ends(t)[i], ends(t)[i]
		for place := range 3 {
			at(t, phase)(p.Promised(place, nothing()))
			if i > 0 {
				at(t, phase)(p.Promised(place, by(of(0, 1), say("no"))))
			}
			at(t, phase)(p.Accepted(place))
			at(t, phase)(p.Refused(place, of(2, 2)))
			at(t, phase)(p.Refused(place, of(top, 0)))
			if !proposer.Same(p, was) {
				t.Fatalf("%d: it heard of %d: %v", i, place, p.State())
			}
			want := was.State()
			stands(t, p, want.Phase, want.Ballot, want.Entry, want.Above, want.Votes...)
		}
	}
}

// standing are proposers of 3, slot 1, at each phase, each made anew: the owner's first, the others by 2 0.
func standing(t *testing.T) []*proposer.Proposer {
	own, asked := owns(t, 3, 1, say("hi")), asks(t, 3, 1, of(2, 0))
	asked.Promised(1, by(of(0, 1), say("hi")))
	gave := gives(t, 3, 1, of(2, 0), by(of(1, 1), say("hi")))
	gave.Accepted(2)
	return append(ends(t), own, asked, gave, asks(t, 3, 1, of(2, 0)))
}

// unchanged asks whether a wrong call is refused at each phase, and changes nothing.
func unchanged(t *testing.T, call func(*proposer.Proposer) (api.Phase, api.Errno)) {
	t.Helper()
	for _, p := range standing(t) {
		was := p.Copy()
		refused(t, api.ErrArg)(call(p))
		if !proposer.Same(p, was) {
			t.Fatalf("it is %v, behind %v", p.State(), was.State())
		}
	}
}

func TestNoPlace(t *testing.T) { // P15.2: ErrArg
	for _, place := range noPlaces(3) {
		unchanged(t, func(p *proposer.Proposer) (api.Phase, api.Errno) { return p.Promised(place, nothing()) })
		unchanged(t, func(p *proposer.Proposer) (api.Phase, api.Errno) { return p.Accepted(place) })
		unchanged(t, func(p *proposer.Proposer) (api.Phase, api.Errno) { return p.Refused(place, of(3, 1)) })
	}
	for _, c := range choirs() {
		p := asks(t, c, 1, of(1, 0))
		for _, place := range noPlaces(c) {
			refused(t, api.ErrArg)(p.Promised(place, nothing()))
			refused(t, api.ErrArg)(p.Accepted(place))
			refused(t, api.ErrArg)(p.Refused(place, of(3, 1)))
		}
		at(t, ask)(p.Promised(int(c)-1, nothing()))
		at(t, ask)(p.Accepted(int(c) - 1))
		at(t, lost)(p.Refused(int(c)-1, of(3, 1)))
	}
}

func TestWhatMayNotBeTold(t *testing.T) { // P15.2: by who may not speak; by what is not less; an entry that may not be; of no ballot any entry
	wrong := []api.Accepted{{}, by(of(2, 0), say("ho")), by(of(2, 1), say("ho")), by(of(2, 2), none()), by(of(3, 0), none()), by(of(top, 2), none()), by(of(0, 0), none()), by(of(0, 2), none())}
	for _, b := range mute(3, 1) {
		wrong = append(wrong, by(b, say("ho")))
		if b != no() {
			wrong = append(wrong, by(b, api.Entry{}))
		}
	}
	for _, e := range wrongOnes() {
		wrong = append(wrong, by(of(0, 1), e), by(of(1, 2), e))
		if e != (api.Entry{}) {
			wrong = append(wrong, by(no(), e))
		}
	}
	for _, e := range rightOnes() {
		wrong = append(wrong, by(no(), e))
	}
	for _, a := range wrong {
		for place := range 3 {
			unchanged(t, func(p *proposer.Proposer) (api.Phase, api.Errno) { return p.Promised(place, a) })
		}
	}
}

func TestWhatIsNotLess(t *testing.T) { // P15.2: held against each ballot; of the owner's none is less
	for _, c := range choirs() {
		for _, slot := range []int{0, 1, 4, 4095} {
			rising := speak(c, slot, 1, 2, top-1, top)
			for i, b := range rising[1:] {
				for j, told := range rising {
					p := asks(t, c, slot, b)
					if j <= i {
						at(t, ask)(p.Promised(2, by(told, none())))
						stands(t, p, ask, b, api.Entry{}, no(), 2)
					} else {
						refused(t, api.ErrArg)(p.Promised(2, by(told, none())))
						stands(t, p, ask, b, api.Entry{}, no())
					}
				}
			}
			own := owns(t, c, slot, say("hi"))
			for _, told := range rising {
				refused(t, api.ErrArg)(own.Promised(2, by(told, none())))
			}
			at(t, give)(own.Promised(2, nothing()))
			stands(t, own, give, rising[0], say("hi"), no())
		}
	}
}

func TestWhatIsNotAbove(t *testing.T) { // P15.2: what who refuses promised: by who may not speak, by what is not above
	for _, b := range append(mute(3, 1), of(0, 1), of(0, 0), of(0, 2), api.Ballot{}) {
		for place := range 3 {
			unchanged(t, func(p *proposer.Proposer) (api.Phase, api.Errno) { return p.Refused(place, b) })
		}
	}
	for _, c := range choirs() {
		for _, slot := range []int{0, 1, 4, 4095} {
			rising := speak(c, slot, 1, 2, top-1, top)
			for i, b := range rising {
				for j, promised := range rising {
					p := owns(t, c, slot, say("hi"))
					if i > 0 {
						p = asks(t, c, slot, b)
					}
					was := p.State()
					if j > i {
						at(t, lost)(p.Refused(1, promised))
						stands(t, p, lost, b, was.Entry, promised)
					} else {
						refused(t, api.ErrArg)(p.Refused(1, promised))
						stands(t, p, was.Phase, b, was.Entry, no())
					}
				}
			}
		}
	}
}

func TestNoProposer(t *testing.T) { // P15.2, P15.3: nil ones, and such as no call made: ErrNil, ahead of ErrArg
	noChoir, _ := proposer.Own(4, 1, none())
	noEntry, _ := proposer.Own(3, 1, say(""))
	noBallot, _ := proposer.Ask(3, 1, of(0, 1))
	for _, p := range []*proposer.Proposer{nil, {}, noChoir, noEntry, noBallot} {
		for _, place := range append(noPlaces(3), 0, 1, 2) {
			refused(t, api.ErrNil)(p.Promised(place, nothing()))
			refused(t, api.ErrNil)(p.Promised(place, api.Accepted{}))
			refused(t, api.ErrNil)(p.Promised(place, by(of(0, 0), none())))
			refused(t, api.ErrNil)(p.Accepted(place))
			refused(t, api.ErrNil)(p.Refused(place, of(1, 0)))
			refused(t, api.ErrNil)(p.Refused(place, no()))
		}
		stands(t, p, 0, api.Ballot{}, api.Entry{}, api.Ballot{})
		if p.Copy() != nil {
			t.Error("there is a copy of none")
		}
	}
}

func TestCopy(t *testing.T) { // P15.3: another one of the same, that goes on apart
	for i := range standing(t) {
		p, was := standing(t)[i], standing(t)[i]
		other := p.Copy()
		if other == nil || other == p || !proposer.Same(p, other) {
			t.Fatalf("another one of %v: %v", p.State(), other)
		}
		for place := range 3 {
			other.Promised(place, nothing())
			other.Accepted(place)
			if !proposer.Same(p, was) {
				t.Fatalf("%v became %v", was.State(), p.State())
			}
		}
		other = p.Copy()
		p.Refused(2, of(3, 0))
		p.Accepted(2)
		if !proposer.Same(other, was) {
			t.Fatalf("%v became %v", was.State(), other.State())
		}
	}
}

func TestCopyKnowsWhatWasTold(t *testing.T) { // P15.3: it gives what was told ahead of the copy, and asks as the first one does who may speak
	for _, c := range choirs() {
		for _, slot := range someSlots() {
			p := asks(t, c, slot, of(5, 1))
			p.Promised(int(c)-1, by(of(2, 1), say("hi")))
			other := p.Copy()
			for place := range int(c) {
				p.Promised(place, by(of(3, place), say("ho")))
				other.Promised(place, by(of(1, 2), say("no")))
			}
			stands(t, p, give, of(5, 1), say("ho"), no())
			stands(t, other, give, of(5, 1), say("hi"), no())
			for _, b := range mute(c, slot) {
				refused(t, api.ErrArg)(other.Refused(0, b))
			}
		}
	}
}

// heard is what a proposer hears: 'p' a promise, 'a' that it was accepted, 'r' a refusal.
type heard struct {
	what  byte
	place int
	told  api.Accepted
	above api.Ballot
}

func promise(place int, told api.Accepted) heard { return heard{what: 'p', place: place, told: told} }
func accept(place int) heard                     { return heard{what: 'a', place: place} }
func refuse(place int, above api.Ballot) heard   { return heard{what: 'r', place: place, above: above} }

func hear(p *proposer.Proposer, all ...heard) (phase api.Phase, e api.Errno) {
	for _, h := range all {
		switch h.what {
		case 'p':
			phase, e = p.Promised(h.place, h.told)
		case 'a':
			phase, e = p.Accepted(h.place)
		case 'r':
			phase, e = p.Refused(h.place, h.above)
		}
	}
	return phase, e
}

func TestSame(t *testing.T) { // P15.3: the same choir, slot, and state, and the same that was told
	hi, ho := by(of(0, 1), say("hi")), by(of(1, 2), say("ho"))
	ways := [][]heard{ // of three places
		{},
		{promise(0, nothing())},
		{promise(1, nothing())},
		{promise(0, hi)},
		{promise(0, ho)},
		{promise(0, by(of(1, 2), say("hi")))},
		{promise(0, by(of(1, 1), say("ho")))},
		{promise(0, by(of(0, 1), none()))},
		{promise(1, hi)},
		{promise(0, nothing()), promise(1, nothing())},
		{promise(0, nothing()), promise(1, hi)},
		{promise(0, hi), promise(1, hi)},
		{promise(0, ho), promise(1, hi)}, // gives the same as the next two, but was told something else
		{promise(0, ho), promise(1, nothing())},
		{promise(0, hi), promise(1, ho)},
		{promise(0, by(of(0, 1), none())), promise(1, nothing())},
		{promise(0, hi), promise(1, hi), accept(0)},
		{promise(0, hi), promise(1, hi), accept(2)},
		{promise(0, hi), promise(1, nothing()), accept(2)},
		{promise(0, hi), promise(1, hi), accept(0), accept(1)},
		{promise(0, hi), promise(1, hi), accept(0), accept(2)},
		{promise(0, hi), promise(1, nothing()), accept(0), accept(2)},
		{refuse(0, of(2, 1))},
		{refuse(0, of(2, 2))},
		{refuse(0, of(3, 1))},
		{promise(0, nothing()), refuse(1, of(2, 1))},
		{promise(0, hi), refuse(1, of(2, 1))},
		{promise(0, hi), promise(1, hi), refuse(1, of(2, 1))},
		{promise(0, hi), promise(1, hi), accept(0), refuse(1, of(2, 1))},
		{promise(0, hi), promise(1, hi), accept(0), refuse(1, of(2, 2))},
	}
	made := func() []*proposer.Proposer {
		var all []*proposer.Proposer
		for _, way := range ways {
			p := asks(t, 3, 1, of(2, 0))
			hear(p, way...)
			all = append(all, p)
		}
		for _, c := range []api.Choir{3, 9} {
			for _, slot := range []int{1, 10, 4} { // 1 and 10 have one owner in both choirs, 1 and 4 in one
				for _, e := range []api.Entry{none(), say("hi"), {Kind: api.EntrySay, Member: 3, Number: 1, Text: "hi"}, {Kind: api.EntrySay, Member: 2, Number: 2, Text: "hi"}, {Kind: api.EntryJoin, Member: 2}} {
					p := owns(t, c, slot, e)
					accepted, refused := p.Copy(), p.Copy()
					hear(accepted, accept(0))
					hear(refused, refuse(0, of(2, 1)))
					all = append(all, p, accepted, refused)
				}
				for _, b := range []api.Ballot{of(1, 0), of(1, 1), of(3, 0), of(3, 1)} {
					p := asks(t, c, slot, b)
					promised := p.Copy()
					hear(promised, promise(2, nothing()))
					all = append(all, p, promised, gives(t, c, slot, b, nothing()))
				}
			}
		}
		return all
	}
	ones, others := made(), made()
	for i, a := range ones {
		for j, b := range others {
			if proposer.Same(a, b) != (i == j) {
				t.Fatalf("Same(%v, %v) = %v, %d and %d", a.State(), b.State(), i != j, i, j)
			}
		}
	}
}

func TestSameHoweverItCame(t *testing.T) { // P15.3: in whatever order, doubled, with what was not heard or refused between
	hi, ho := by(of(0, 1), say("hi")), by(of(1, 2), say("ho"))
	a, b := asks(t, 5, 1, of(2, 0)), asks(t, 5, 1, of(2, 0))
	hear(a, promise(0, hi), promise(3, ho), promise(4, nothing()))
	hear(b, promise(4, nothing()), accept(0), promise(4, ho), promise(3, ho), promise(5, ho), promise(3, nothing()), promise(1, by(of(2, 0), none())), refuse(1, of(2, 0)), promise(0, hi))
	if !proposer.Same(a, b) || !proposer.Same(b, a) || !proposer.Same(a, a) {
		t.Errorf("%v and %v", a.State(), b.State())
	}
	hear(a, accept(1), accept(2))
	hear(b, accept(2), promise(1, ho), accept(2), accept(-1))
	if proposer.Same(a, b) || proposer.Same(b, a) {
		t.Error("one place less accepted")
	}
	hear(b, accept(1))
	if !proposer.Same(a, b) {
		t.Errorf("%v and %v", a.State(), b.State())
	}
	hear(a, accept(0), accept(4))
	hear(b, accept(0), refuse(0, of(3, 0)))
	if !proposer.Same(a, b) {
		t.Errorf("%v and %v", a.State(), b.State())
	}
}

func TestSameNil(t *testing.T) { // P15.3: a nil one is like a nil one alone
	nobody := []*proposer.Proposer{nil, {}}
	for _, a := range nobody {
		for _, b := range nobody {
			if !proposer.Same(a, b) {
				t.Error("nil ones are not the same")
			}
		}
		for _, b := range append(standing(t), owns(t, 3, 0, none()), asks(t, 3, 0, of(1, 0))) {
			if proposer.Same(a, b) || proposer.Same(b, a) {
				t.Errorf("%v is like a nil one", b.State())
			}
		}
	}
}

// fresh is a text whose bytes may be changed behind it.
func fresh(text string) (string, []byte) {
	b := []byte(text)
	return unsafe.String(&b[0], len(b)), b
}

func TestTextIsNotKept(t *testing.T) { // what is handed in is not kept
	text, b := fresh("hi there")
	own, other := owns(t, 3, 1, say(text)), asks(t, 3, 1, of(1, 0))
	at(t, ask)(other.Promised(0, by(of(0, 1), say(text))))
	copy(b, "ho")
	stands(t, own, give, of(0, 1), say("hi there"), no())
	at(t, give)(other.Promised(1, nothing()))
	stands(t, other, give, of(1, 0), say("hi there"), no())
}

func TestAnswersAreNew(t *testing.T) { // an answer shares no memory with another one, nor with a copy's
	p := gives(t, 5, 1, of(1, 0), by(of(0, 1), say("hi there")))
	hear(p, accept(3), accept(1))
	texts, votes := map[*byte]int{}, map[*int]int{}
	for _, q := range []*proposer.Proposer{p, p, p.Copy(), p.Copy().Copy()} {
		got := q.State()
		stands(t, q, give, of(1, 0), say("hi there"), no(), 1, 3)
		texts[unsafe.StringData(got.Entry.Text)]++
		votes[&got.Votes[0]]++
		got.Votes[0], got.Votes[1] = 2, 4
		stands(t, q, give, of(1, 0), say("hi there"), no(), 1, 3)
	}
	if len(texts) != 4 || len(votes) != 4 {
		t.Errorf("4 answers have %d texts and %d lists", len(texts), len(votes))
	}
}

// book is a proposer as the chapter's words tell it; rising are the ballots in their order.
type book struct {
	choir  api.Choir
	rising []api.Ballot
	state  api.Proposing
	told   []api.Accepted
}

// won tells whether so many places are more than half.
func (k *book) won(many int) bool { return 2*many > int(k.choir) }

// hears writes down what a right call changes.
func (k *book) hears(h heard) {
	s := &k.state
	is := slices.Contains(s.Votes, h.place)
	switch {
	case s.Phase == done || s.Phase == lost:
	case h.what == 'r':
		s.Above = h.above
		if s.Phase == ask {
			s.Votes = nil
		}
		s.Phase = lost
	case h.what == 'p' && s.Phase == ask && !is:
		k.told = append(k.told, h.told)
		s.Votes = append(s.Votes, h.place)
		if k.won(len(s.Votes)) {
			s.Phase, s.Votes, s.Entry = give, nil, none()
			for _, b := range k.rising {
				for _, told := range k.told {
					if told.Ballot == b {
						s.Entry = told.Entry
					}
				}
			}
		}
	case h.what == 'a' && s.Phase == give && !is:
		s.Votes = append(s.Votes, h.place)
		if k.won(len(s.Votes)) {
			s.Phase = done
		}
	}
	slices.Sort(s.Votes)
}

// follows lets a proposer and a book hear the same, and holds them against each other behind each step; and what P15.4 says.
func follows(t *testing.T, p *proposer.Proposer, k *book, all ...heard) {
	t.Helper()
	for i, h := range all {
		was := p.State()
		k.hears(h)
		phase, e := hear(p, h)
		if e != api.OK || phase != k.state.Phase {
			t.Fatalf("behind %v: %v, %v, not %v", all[:i+1], phase, e, k.state.Phase)
		}
		now := p.State()
		stands(t, p, k.state.Phase, k.state.Ballot, k.state.Entry, k.state.Above, k.state.Votes...)
		if now.Phase < was.Phase || was.Phase == done && now.Phase == lost {
			t.Fatalf("phase %v behind %v", now.Phase, was.Phase)
		}
		if was.Entry.Kind != 0 && now.Entry != was.Entry {
			t.Fatalf("it gives %v behind %v", now.Entry, was.Entry)
		}
		told := func(a api.Accepted) bool { return a.Entry == now.Entry }
		if now.Ballot.Round > 0 && now.Entry.Kind > api.EntryNone && !slices.ContainsFunc(k.told, told) {
			t.Fatalf("it gives %v, that nobody told", now.Entry)
		}
	}
}

// ownBook is a book of the owner's.
func ownBook(c api.Choir, rising []api.Ballot, e api.Entry) *book {
	return &book{choir: c, rising: rising, state: api.Proposing{Phase: give, Ballot: rising[0], Entry: e, Above: no()}}
}

// askBook is a book of one that asks.
func askBook(c api.Choir, rising []api.Ballot, b api.Ballot) *book {
	return &book{choir: c, rising: rising, state: api.Proposing{Phase: ask, Ballot: b, Above: no()}}
}

func TestAllShortTalks(t *testing.T) { // P15.2, P15.4: whatever is heard, four times
	rising := speak(3, 1, 1, 2, 3)
	var others, owners []heard
	for place := range 3 {
		for _, told := range []api.Accepted{nothing(), by(of(0, 1), say("hi")), by(of(1, 2), say("ho"))} {
			others = append(others, promise(place, told))
		}
		others = append(others, accept(place), refuse(place, of(2, 1)))
		owners = append(owners, accept(place), promise(place, nothing()), refuse(place, of(1, 0)))
	}
	short := func(some []heard, begin func() (*proposer.Proposer, *book)) {
		for _, w := range some {
			for _, x := range some {
				for _, y := range some {
					for _, z := range some {
						p, k := begin()
						follows(t, p, k, w, x, y, z)
					}
				}
			}
		}
	}
	short(others, func() (*proposer.Proposer, *book) {
		return asks(t, 3, 1, of(2, 0)), askBook(3, rising, of(2, 0))
	})
	short(owners, func() (*proposer.Proposer, *book) {
		return owns(t, 3, 1, say("hi")), ownBook(3, rising, say("hi"))
	})
}

func TestLongTalks(t *testing.T) { // P15.2, P15.4: of all choirs, all slots, ballots up to the top
	mix := rand.New(rand.NewSource(16))
	entries := rightOnes()
	for _, c := range choirs() {
		for range 500 {
			slot := mix.Intn(4096)
			rising := speak(c, slot, 1, 2, 3, top-1, top)
			b := 1 + mix.Intn(len(rising)-2)
			p, k := asks(t, c, slot, rising[b]), askBook(c, rising, rising[b])
			if mix.Intn(4) == 0 {
				entry := entries[mix.Intn(len(entries))]
				b, p, k = 0, owns(t, c, slot, entry), ownBook(c, rising, entry)
			}
			var all []heard
			for range mix.Intn(5 * int(c)) {
				place := mix.Intn(int(c))
				switch kind := mix.Intn(40); {
				case kind == 0:
					all = append(all, refuse(place, rising[b+1+mix.Intn(len(rising)-b-1)]))
				case kind < 20 && (b == 0 || kind < 5):
					all = append(all, promise(place, nothing()))
				case kind < 20:
					told := rising[mix.Intn(b)]
					all = append(all, promise(place, by(told, sayingOf(told))))
				default:
					all = append(all, accept(place))
				}
			}
			follows(t, p, k, all...)
		}
	}
}

func TestNeverBack(t *testing.T) { // P15.4: whatever is called, also such as may not be: what may not be changes nothing, no phase goes back, what it gives stays
	mix := rand.New(rand.NewSource(17))
	entries := append(rightOnes(), wrongOnes()[:12]...)
	for _, c := range choirs() {
		ballots := append(mute(c, 4), slices.Repeat(speak(c, 4, 1, 2, 3), 8)...)
		places := append(noPlaces(c), slices.Repeat([]int{0, 1, 2}, 10)...)
		for range 150 {
			p := asks(t, c, 4, of(2, 1))
			if mix.Intn(3) == 0 {
				p = owns(t, c, 4, say("hi"))
			}
			for range 60 {
				was, state := p.Copy(), p.State()
				told := by(ballots[mix.Intn(len(ballots))], entries[mix.Intn(len(entries))])
				if mix.Intn(3) == 0 {
					told = nothing()
				}
				place := places[mix.Intn(len(places))]
				call := []heard{promise(place, told), promise(place, told), accept(place), refuse(place, ballots[mix.Intn(len(ballots))])}[mix.Intn(min(4, 3+mix.Intn(10)/9))]
				_, e := hear(p, call)
				now := p.State()
				switch {
				case e != api.OK && !proposer.Same(p, was):
					t.Fatalf("%v was refused, and changed %v to %v", call, state, now)
				case now.Phase < state.Phase || state.Phase == done && now.Phase != done:
					t.Fatalf("%v: phase %v behind %v", call, now.Phase, state.Phase)
				case now.Ballot != state.Ballot || state.Entry.Kind != 0 && now.Entry != state.Entry:
					t.Fatalf("%v: %v behind %v", call, now, state)
				}
			}
		}
	}
}
