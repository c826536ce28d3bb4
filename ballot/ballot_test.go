package ballot_test

import (
	"iter"
	"math"
	"math/rand"
	"slices"
	"testing"

	"antiphon/api"
	"antiphon/ballot"
)

const top = 1<<31 - 1 // MaxNumber

// choirs are all that may be.
func choirs() []api.Choir { return []api.Choir{3, 5, 7, 9} }

// noChoirs are some that may not be: near ones, far ones, such as are like a choir by their lowest bits.
func noChoirs() []api.Choir {
	all := []api.Choir{math.MinInt, math.MinInt + 1, math.MaxInt - 1, math.MaxInt, math.MinInt32, math.MaxInt32}
	for _, c := range []api.Choir{0, 1, 3, 5, 7, 9} {
		all = append(all, -c-1, -c-3, c+1<<32, c-1<<32, c+1<<16, c+1<<8, c+1<<62)
	}
	for c := api.Choir(-12); c <= 20; c++ {
		if !slices.Contains(choirs(), c) {
			all = append(all, c)
		}
	}
	return all
}

// huge are numbers that are no place, no slot.
func huge() []int {
	return []int{math.MinInt, math.MinInt + 1, math.MinInt32, -1 << 32, 1<<32 - 1, 1 << 32, 1<<32 + 1, 1 << 62, -1 << 62, 1 << 8, 1 << 16, -1 << 8, math.MaxInt32, math.MaxInt - 8, math.MaxInt - 1, math.MaxInt}
}

func noPlaces(c api.Choir) []int {
	all := append(huge(), -64, -9, -3, -2, -1)
	for place := int(c); place < int(c)+12; place++ {
		all = append(all, place)
	}
	return append(all, 64, 4095, 4096)
}

func noSlots() []int {
	return []int{math.MinInt, math.MinInt + 1, math.MinInt32, -4096, -9, -2, -1, 4096, 4097, 4099, 4105, 8192, math.MaxInt32, 1 << 32, math.MaxInt - 1, math.MaxInt}
}

// rounds are some that may be, rising: the least, the greatest, such as are near powers of two.
func rounds() []int64 {
	all := []int64{0, 1, 2, 3, 4, 7, 255, 256, 257, 65535, 65536, 1<<30 - 1, 1 << 30, 1<<30 + 1}
	return append(all, top-3, top-2, top-1, top)
}

func noRounds() []int64 {
	all := []int64{math.MinInt64, math.MinInt64 + 1, -top - 2, -top - 1, -top, -1 << 32, -1<<32 + 1, -3, -2, -1}
	return append(all, top+1, top+2, 1<<32-1, 1<<32, 1<<32+1, 1<<33, 1<<62, math.MaxInt64-1, math.MaxInt64)
}

// no is no ballot.
func no() api.Ballot { return api.Ballot{Round: -1} }

func of(round int64, place int) api.Ballot { return api.Ballot{Round: round, Place: place} }

// rising are ballots of a choir, each lesser ahead of each greater, told one by one: rounds, and in each the places. No ballot is ahead of all.
func rising(c api.Choir, rounds []int64) []api.Ballot {
	all := []api.Ballot{no()}
	for _, round := range rounds {
		for place := range int(c) {
			all = append(all, of(round, place))
		}
	}
	return all
}

// wrong are some that are no ballots of a choir. No ballot at all is not among them.
func wrong(c api.Choir) []api.Ballot {
	var all []api.Ballot
	for _, round := range append(noRounds(), rounds()...) {
		for _, place := range noPlaces(c) {
			all = append(all, of(round, place))
		}
	}
	for _, round := range noRounds() {
		for place := range int(c) {
			if of(round, place) != no() {
				all = append(all, of(round, place))
			}
		}
	}
	return all
}

// where tells where a ballot stands among rising ones: that is their order.
func where(t *testing.T, all []api.Ballot, b api.Ballot) int {
	t.Helper()
	at := slices.Index(all, b)
	if at < 0 {
		t.Fatalf("%v is none of them", b)
	}
	return at
}

// aboveTold is the first one of a place, of a round above 0, behind where all others stand.
func aboveTold(t *testing.T, all []api.Ballot, place int, l ...api.Ballot) (api.Ballot, api.Errno) {
	t.Helper()
	from := 0
	for _, b := range l {
		from = max(from, where(t, all, b)+1)
	}
	for _, b := range all[from:] {
		if b.Round > 0 && b.Place == place {
			return b, api.OK
		}
	}
	return api.Ballot{}, api.ErrTop
}

func sign(n int) int { return min(max(n, -1), 1) }

// is asks whether a call answered a ballot, and no error.
func is(t *testing.T, round int64, place int) func(api.Ballot, api.Errno) {
	t.Helper()
	return func(b api.Ballot, e api.Errno) {
		t.Helper()
		if b != of(round, place) || e != api.OK {
			t.Fatalf("%v, %v, not %v", b, e, of(round, place))
		}
	}
}

// refused asks whether a call answered an error, and nothing beside it.
func refused(t *testing.T, why api.Errno) func(api.Ballot, api.Errno) {
	t.Helper()
	return func(b api.Ballot, e api.Errno) {
		t.Helper()
		if b != (api.Ballot{}) || e != why {
			t.Fatalf("%v, %v, not %v", b, e, why)
		}
	}
}

// added asks whether a place was new, and there is no error.
func added(t *testing.T, is bool) func(bool, api.Errno) {
	t.Helper()
	return func(was bool, e api.Errno) {
		t.Helper()
		if was != is || e != api.OK {
			t.Fatalf("%v, %v, not %v", was, e, is)
		}
	}
}

// notAdded asks whether a place was refused.
func notAdded(t *testing.T, why api.Errno) func(bool, api.Errno) {
	t.Helper()
	return func(was bool, e api.Errno) {
		t.Helper()
		if was || e != why {
			t.Fatalf("%v, %v, not %v", was, e, why)
		}
	}
}

// tells asks whether places are gone over, and no others.
func tells(t *testing.T, places iter.Seq[int], want []int) {
	t.Helper()
	if places == nil {
		t.Fatal("there is no iterator")
	}
	if got := slices.Collect(places); !slices.Equal(got, want) {
		t.Fatalf("%v, not %v", got, want)
	}
}

// set is places by the bits of a number, rising.
func set(c api.Choir, bits int) []int {
	var all []int
	for place := range int(c) {
		if bits>>place&1 == 1 {
			all = append(all, place)
		}
	}
	return all
}

func none(t *testing.T, c api.Choir) *ballot.Votes {
	t.Helper()
	v, e := ballot.New(c)
	if v == nil || e != api.OK {
		t.Fatalf("New(%d) = %v, %v", c, v, e)
	}
	return v
}

func votes(t *testing.T, c api.Choir, places ...int) *ballot.Votes {
	t.Helper()
	v := none(t, c)
	for _, place := range places {
		if _, e := v.Add(place); e != api.OK {
			t.Fatal(e)
		}
	}
	return v
}

// stands asks for all that votes tell.
func stands(t *testing.T, v *ballot.Votes, c api.Choir, want []int) {
	t.Helper()
	tells(t, v.Places(), want)
	if v.Many() != len(want) {
		t.Fatalf("%d of %v", v.Many(), want)
	}
	if won := 2*len(want) > int(c); v.Won() != won {
		t.Fatalf("%v won: %v", want, !won)
	}
	for place := range int(c) {
		if v.Has(place) != slices.Contains(want, place) {
			t.Fatalf("Has(%d) = %v, of %v", place, v.Has(place), want)
		}
	}
	for _, place := range noPlaces(c) {
		if v.Has(place) {
			t.Fatalf("it has %d", place)
		}
	}
}

func TestExamples(t *testing.T) { // P13.2, P13.3
	is(t, 0, 1)(ballot.First(3, 7))
	if ballot.May(3, 7, of(0, 2)) || !ballot.May(3, 7, of(1, 2)) {
		t.Error("who may speak")
	}
	is(t, 3, 0)(ballot.Above(3, 0, of(2, 1)))
	is(t, 2, 2)(ballot.Above(3, 2, of(2, 1)))
	is(t, 1, 1)(ballot.Above(3, 1))
	v := none(t, 3)
	added(t, true)(v.Add(0))
	added(t, false)(v.Add(0))
	if v.Won() {
		t.Error("one of three won")
	}
	added(t, true)(v.Add(2))
	if !v.Won() {
		t.Error("two of three did not win")
	}
}

func TestNone(t *testing.T) { // P13.1: no ballot, less than all
	if ballot.None() != no() {
		t.Fatal(ballot.None())
	}
	for _, c := range choirs() {
		for _, b := range rising(c, rounds())[1:] {
			if ballot.Compare(ballot.None(), b) != -1 || ballot.Compare(b, ballot.None()) != 1 {
				t.Fatal(b)
			}
		}
	}
	if ballot.Compare(ballot.None(), ballot.None()) != 0 {
		t.Error("it is not the same")
	}
}

func TestCheck(t *testing.T) { // P13.1: ErrArg, also of no ballot
	for _, c := range choirs() {
		for _, b := range rising(c, rounds())[1:] {
			if e := ballot.Check(c, b); e != api.OK {
				t.Fatalf("Check(%d, %v) = %v", c, b, e)
			}
		}
		for _, b := range append(wrong(c), no(), ballot.None()) {
			if e := ballot.Check(c, b); e != api.ErrArg {
				t.Fatalf("Check(%d, %v) = %v", c, b, e)
			}
		}
	}
	for _, c := range noChoirs() {
		for _, b := range append(rising(9, rounds()), wrong(3)...) {
			if e := ballot.Check(c, b); e != api.ErrArg {
				t.Fatalf("Check(%d, %v) = %v", c, b, e)
			}
		}
	}
}

func TestCompare(t *testing.T) { // P13.1: of any, by their numbers: also of such as may not be, and of numbers whose difference comes round
	byRound := []int64{math.MinInt64, math.MinInt64 + 1, -1 << 62, -1 << 32, -1<<32 + 1, math.MinInt32, -2, -1, 0, 1, 2, 255, 256, top - 1, top, top + 1, 1<<32 - 1, 1 << 32, 1<<32 + 1, 1 << 62, math.MaxInt64 - 1, math.MaxInt64}
	byPlace := []int{math.MinInt, math.MinInt + 1, -1 << 62, -1 << 32, -1<<32 + 1, math.MinInt32, -2, -1, 0, 1, 2, 8, 9, 255, 256, math.MaxInt32, 1<<32 - 1, 1 << 32, 1<<32 + 1, 1 << 62, math.MaxInt - 1, math.MaxInt}
	var all []api.Ballot
	for _, round := range byRound {
		for _, place := range byPlace {
			all = append(all, of(round, place))
		}
	}
	for i, a := range all {
		for j, b := range all {
			if got := ballot.Compare(a, b); got != sign(i-j) {
				t.Fatalf("Compare(%v, %v) = %d", a, b, got)
			}
		}
	}
}

func TestFirst(t *testing.T) { // P13.2: the owner's ballot; the places take turns
	for _, c := range choirs() {
		owner := 0
		for slot := range 4096 {
			is(t, 0, owner)(ballot.First(c, slot))
			if owner++; owner == int(c) {
				owner = 0
			}
		}
		for _, slot := range noSlots() {
			refused(t, api.ErrRange)(ballot.First(c, slot))
		}
	}
	for _, c := range noChoirs() { // ErrArg, also where the slot is none
		for _, slot := range append(noSlots(), 0, 1, 7, 4095) {
			refused(t, api.ErrArg)(ballot.First(c, slot))
		}
	}
}

func TestMay(t *testing.T) { // P13.2: above round 0 each place, at it the owner alone
	for _, c := range choirs() {
		owner := 0
		for slot := range 4096 {
			for place := range int(c) {
				if got := ballot.May(c, slot, of(0, place)); got != (place == owner) {
					t.Fatalf("May(%d, %d, %v) = %v", c, slot, of(0, place), got)
				}
				for _, round := range rounds()[1:] {
					if !ballot.May(c, slot, of(round, place)) {
						t.Fatalf("%v may not speak for %d, of %d", of(round, place), slot, c)
					}
				}
			}
			if owner++; owner == int(c) {
				owner = 0
			}
		}
	}
}

func TestMayNot(t *testing.T) { // P13.2: a ballot, a choir, a slot that may not be
	for _, c := range choirs() {
		for _, slot := range []int{0, 1, 2, 8, 9, 10, 4094, 4095} {
			for _, b := range append(wrong(c), no()) {
				if ballot.May(c, slot, b) {
					t.Fatalf("%v may speak for %d, of %d", b, slot, c)
				}
			}
		}
		for _, slot := range noSlots() {
			for _, b := range rising(c, rounds()) {
				if ballot.May(c, slot, b) {
					t.Fatalf("%v may speak for %d, of %d", b, slot, c)
				}
			}
		}
	}
	for _, c := range noChoirs() {
		for _, slot := range append(noSlots(), 0, 1, 2, 4095) {
			for _, b := range rising(3, rounds()) {
				if ballot.May(c, slot, b) {
					t.Fatalf("%v may speak for %d, of %d", b, slot, c)
				}
			}
		}
	}
}

func TestAboveOne(t *testing.T) { // P13.2: above each
	for _, c := range choirs() {
		all := rising(c, []int64{0, 1, 2, 3, 4, 5, 6})
		for _, b := range all[:len(all)-int(c)] {
			for place := range int(c) {
				want, _ := aboveTold(t, all, place, b)
				is(t, want.Round, want.Place)(ballot.Above(c, place, b))
			}
		}
	}
}

func TestAboveNone(t *testing.T) { // P13.2: of a round above 0, also where nothing is told, or no ballot, or those of round 0
	for _, c := range choirs() {
		for place := range int(c) {
			is(t, 1, place)(ballot.Above(c, place))
			is(t, 1, place)(ballot.Above(c, place, []api.Ballot{}...))
			is(t, 1, place)(ballot.Above(c, place, no()))
			is(t, 1, place)(ballot.Above(c, place, no(), ballot.None()))
			for other := range int(c) {
				is(t, 1, place)(ballot.Above(c, place, of(0, other)))
				is(t, 1, place)(ballot.Above(c, place, no(), of(0, other), no()))
			}
		}
	}
}

func TestAboveTwo(t *testing.T) { // P13.2: above both, whichever comes first
	for _, c := range choirs() {
		all := rising(c, []int64{0, 1, 2, 3, 4})
		for _, a := range all[:len(all)-int(c)] {
			for _, b := range all[:len(all)-int(c)] {
				for place := range int(c) {
					want, _ := aboveTold(t, all, place, a, b)
					is(t, want.Round, want.Place)(ballot.Above(c, place, a, b))
				}
			}
		}
	}
}

func TestAboveMany(t *testing.T) { // P13.2: above all of these
	mix := rand.New(rand.NewSource(13))
	for _, c := range choirs() {
		all := rising(c, []int64{0, 1, 2, 3, 4, 5, 6, 7, 8, 9})
		some := all[:len(all)-int(c)]
		for range 2000 {
			var l []api.Ballot
			for range mix.Intn(12) {
				l = append(l, some[mix.Intn(len(some))])
			}
			place := mix.Intn(int(c))
			want, _ := aboveTold(t, all, place, l...)
			is(t, want.Round, want.Place)(ballot.Above(c, place, l...))
		}
	}
	l := slices.Repeat([]api.Ballot{of(4, 1)}, 100000)
	is(t, 4, 2)(ballot.Above(3, 2, l...))
	l[77777] = of(9, 2)
	is(t, 10, 2)(ballot.Above(3, 2, l...))
}

func TestAboveFarRounds(t *testing.T) { // P13.2: the next round, or the same one
	for _, c := range choirs() {
		for _, round := range rounds()[1:] {
			for other := range int(c) {
				for place := range int(c) {
					switch {
					case place > other:
						is(t, round, place)(ballot.Above(c, place, of(round, other)))
					case round < top:
						is(t, round+1, place)(ballot.Above(c, place, of(round, other)))
					default:
						refused(t, api.ErrTop)(ballot.Above(c, place, of(round, other)))
					}
				}
			}
		}
	}
}

func TestTop(t *testing.T) { // P13.2: no round above MaxNumber
	for _, c := range choirs() {
		all := rising(c, []int64{0, 1, 2, top - 2, top - 1, top})
		for place := range int(c) {
			for _, b := range all {
				if b.Round == 2 { // the round above is none of these
					continue
				}
				for _, l := range [][]api.Ballot{{b}, {b, of(top-1, 0)}, {of(top-1, int(c)-1), b}, {no(), b, of(top, 1)}, {of(top, 0), b, of(0, 0)}} {
					want, why := aboveTold(t, all, place, l...)
					got, e := ballot.Above(c, place, l...)
					if got != want || e != why {
						t.Fatalf("Above(%d, %d, %v) = %v, %v, not %v, %v", c, place, l, got, e, want, why)
					}
				}
			}
		}
		is(t, top, 1)(ballot.Above(c, 1, of(top, 0)))
		refused(t, api.ErrTop)(ballot.Above(c, 1, of(top, 1)))
		refused(t, api.ErrTop)(ballot.Above(c, 1, of(top, 2)))
		is(t, top, 0)(ballot.Above(c, 0, of(top-1, 0)))
		is(t, top, int(c)-1)(ballot.Above(c, int(c)-1, of(top, int(c)-2)))
	}
}

func TestAboveOfNoPlace(t *testing.T) { // P13.2: ErrArg, also where there is no round above
	lists := [][]api.Ballot{nil, {no()}, {of(0, 0)}, {of(2, 1)}, {of(top, 2)}, {of(-2, 0)}}
	for _, l := range lists {
		for _, c := range choirs() {
			for _, place := range noPlaces(c) {
				refused(t, api.ErrArg)(ballot.Above(c, place, l...))
			}
		}
		for _, c := range noChoirs() {
			for _, place := range append(noPlaces(3), 0, 1, 2) {
				refused(t, api.ErrArg)(ballot.Above(c, place, l...))
			}
		}
	}
}

func TestAboveWrong(t *testing.T) { // P13.2: ErrArg, wherever the wrong one stands, also where there is no round above
	for _, c := range choirs() {
		for _, b := range wrong(c) {
			for place := range int(c) {
				refused(t, api.ErrArg)(ballot.Above(c, place, b))
			}
			refused(t, api.ErrArg)(ballot.Above(c, 1, b, of(1, 1)))
			refused(t, api.ErrArg)(ballot.Above(c, 1, of(1, 1), b))
			refused(t, api.ErrArg)(ballot.Above(c, 0, no(), b, of(top, 2)))
			refused(t, api.ErrArg)(ballot.Above(c, 0, of(top, 2), no(), b))
			refused(t, api.ErrArg)(ballot.Above(c, 2, of(5, 1), b, of(7, 0), of(3, 2)))
		}
	}
}

func TestAboveChangesNothing(t *testing.T) { // P13.2: what is handed in stays, and the room behind it
	room := []api.Ballot{of(7, 2), no(), of(9, 0), of(1, 1), of(8, 8), of(6, 6)}
	want := slices.Clone(room)
	is(t, 9, 1)(ballot.Above(3, 1, room[:4]...))
	refused(t, api.ErrArg)(ballot.Above(3, 1, room[:5]...))
	is(t, 8, 1)(ballot.Above(3, 1, room[:1]...))
	if !slices.Equal(room, want) {
		t.Fatal(room)
	}
}

func TestNew(t *testing.T) { // P13.3: votes of nobody
	for _, c := range choirs() {
		stands(t, none(t, c), c, nil)
	}
	for _, c := range noChoirs() {
		if v, e := ballot.New(c); v != nil || e != api.ErrArg {
			t.Fatalf("New(%d) = %v, %v", c, v, e)
		}
	}
}

func TestVotes(t *testing.T) { // P13.3: all sets of places, rising and falling
	for _, c := range choirs() {
		for bits := range 1 << c {
			places := set(c, bits)
			v, w := none(t, c), none(t, c)
			for i, place := range places {
				added(t, true)(v.Add(place))
				stands(t, v, c, places[:i+1])
				added(t, false)(v.Add(place))
				added(t, true)(w.Add(places[len(places)-1-i]))
			}
			for _, place := range places {
				added(t, false)(v.Add(place))
				added(t, false)(w.Add(place))
			}
			stands(t, v, c, places)
			stands(t, w, c, places)
		}
	}
}

func TestVotesInAnyOrder(t *testing.T) { // P13.3: was it not ahead of that?
	mix := rand.New(rand.NewSource(3))
	for _, c := range choirs() {
		for range 300 {
			v, bits := none(t, c), 0
			for range mix.Intn(3 * int(c)) {
				place := mix.Intn(int(c))
				added(t, bits>>place&1 == 0)(v.Add(place))
				bits |= 1 << place
				stands(t, v, c, set(c, bits))
			}
		}
	}
}

func TestVotesOfEachChoir(t *testing.T) { // P13.3: more than half of its own choir
	for _, c := range choirs() {
		v := none(t, c)
		for place := range int(c) {
			if won := place > int(c)/2; v.Won() != won {
				t.Fatalf("%d of %d won: %v", place, c, !won)
			}
			added(t, true)(v.Add(place))
		}
		if !v.Won() || v.Many() != int(c) {
			t.Fatalf("all %d did not win", c)
		}
	}
}

func TestAddOfNoPlace(t *testing.T) { // P13.3: ErrArg, and nothing changes
	for _, c := range choirs() {
		for _, places := range [][]int{nil, {0}, {1, 2}, set(c, 1<<c-1)} {
			v := votes(t, c, places...)
			for _, place := range noPlaces(c) {
				notAdded(t, api.ErrArg)(v.Add(place))
				notAdded(t, api.ErrArg)(v.Add(place))
			}
			stands(t, v, c, places)
		}
	}
}

func TestNoVotes(t *testing.T) { // P13.3: nil ones, and such as no call made
	refusedOnes, _ := ballot.New(4)
	for _, v := range []*ballot.Votes{nil, {}, refusedOnes} {
		for _, place := range append(noPlaces(9), 0, 1, 2, 8) {
			notAdded(t, api.ErrNil)(v.Add(place))
			if v.Has(place) {
				t.Fatalf("it has %d", place)
			}
		}
		if v.Many() != 0 || v.Won() || v.Copy() != nil {
			t.Fatal("there is something")
		}
		tells(t, v.Places(), nil)
	}
}

func TestPlacesAreLeft(t *testing.T) { // P13.3: at any time, and gone over again, also within themselves
	want := []int{0, 2, 3, 6, 8}
	places := votes(t, 9, 8, 3, 0, 6, 2).Places()
	for most := range len(want) + 1 {
		var seen []int
		for place := range places {
			if len(seen) == most {
				break
			}
			seen = append(seen, place)
		}
		if !slices.Equal(seen, want[:most]) {
			t.Fatalf("the first %d = %v", most, seen)
		}
	}
	n := 0
	for range places {
		for place := range places {
			if place != want[n%len(want)] {
				t.Fatalf("the place %d = %d", n, place)
			}
			n++
		}
	}
	if n != len(want)*len(want) {
		t.Fatalf("it told %d places", n)
	}
}

func TestPlacesAreLeftAtOnce(t *testing.T) { // P13.3: behind the last one that was asked for nothing more is told
	for _, c := range choirs() {
		for most := 1; most <= int(c); most++ {
			n := 0
			votes(t, c, set(c, 1<<c-1)...).Places()(func(int) bool { n++; return n < most })
			if n != most {
				t.Fatalf("%d places were told, not %d", n, most)
			}
		}
	}
}

func TestPlacesAsTheyAre(t *testing.T) { // P13.3: when it is called
	v := none(t, 5)
	nobody := v.Places()
	added(t, true)(v.Add(3))
	one := v.Places()
	added(t, true)(v.Add(1))
	for place := range one {
		added(t, true)(v.Add(4))
		if place != 3 {
			t.Fatal(place)
		}
	}
	tells(t, nobody, nil)
	tells(t, one, []int{3})
	for place := range v.Places() {
		if _, e := v.Add(place - 1); e != api.OK {
			t.Fatal(e)
		}
	}
	tells(t, v.Places(), []int{0, 1, 2, 3, 4})
	tells(t, one, []int{3})
}

func TestCopy(t *testing.T) { // P13.3: others of the same, that go on apart
	for _, c := range choirs() {
		for bits := range 1 << c {
			places := set(c, bits)
			v := votes(t, c, places...)
			w := v.Copy()
			if w == nil || w == v || !ballot.Same(v, w) {
				t.Fatalf("another one of %v: %v", v, w)
			}
			stands(t, w, c, places)
			for place := range int(c) {
				x, y := v.Copy(), v.Copy()
				was := slices.Contains(places, place)
				added(t, !was)(x.Add(place))
				if ballot.Same(x, v) != was || ballot.Same(y, x) != was {
					t.Fatalf("%v and %d go on together", places, place)
				}
			}
			for place := range int(c) { // what is done to the first changes no copy
				if _, e := v.Add(place); e != api.OK {
					t.Fatal(e)
				}
			}
			stands(t, v, c, set(c, 1<<c-1))
			stands(t, w, c, places)
		}
	}
}

func TestSame(t *testing.T) { // P13.3: the same choir, the same places
	for _, c := range choirs() {
		all := make([]*ballot.Votes, 1<<c)
		for bits := range all {
			all[bits] = votes(t, c, set(c, bits)...)
		}
		for i, a := range all {
			for j, b := range all {
				if ballot.Same(a, b) != (i == j) {
					t.Fatalf("%v and %v, of %d: %v", set(c, i), set(c, j), c, i != j)
				}
			}
			for _, other := range choirs() {
				if b := votes(t, other, set(3, i&7)...); ballot.Same(b, a) != (c == other && i < 8) {
					t.Fatalf("%v of %d, %v of %d", set(c, i), c, set(3, i&7), other)
				}
			}
		}
	}
}

func TestSameInAnyOrder(t *testing.T) { // P13.3: of a set nobody knows who came first, or how often
	if !ballot.Same(votes(t, 5, 4, 0, 4, 2), votes(t, 5, 2, 4, 0)) {
		t.Error("an order is kept")
	}
	v := votes(t, 5, 1)
	notAdded(t, api.ErrArg)(v.Add(5))
	if !ballot.Same(v, votes(t, 5, 1)) {
		t.Error("what was refused is kept")
	}
}

func TestSameNil(t *testing.T) { // P13.3: nil ones are like nil ones alone
	nobody := []*ballot.Votes{nil, {}}
	for _, a := range nobody {
		for _, b := range nobody {
			if !ballot.Same(a, b) {
				t.Error("nil ones are not the same")
			}
		}
		for _, c := range choirs() {
			for _, b := range []*ballot.Votes{none(t, c), votes(t, c, 0)} {
				if ballot.Same(a, b) || ballot.Same(b, a) {
					t.Errorf("votes of %d are like nil ones", c)
				}
			}
		}
	}
}

func TestOneOrder(t *testing.T) { // P13.4: of any two one is less, or they are the same; less than a lesser one is less
	for _, c := range choirs() {
		all := rising(c, []int64{0, 1, 2, top})
		for _, x := range all {
			for _, y := range all {
				xy := ballot.Compare(x, y)
				if (xy == 0) != (x == y) || xy != -ballot.Compare(y, x) {
					t.Fatalf("%v and %v: %d", x, y, xy)
				}
				for _, z := range all {
					if xy < 0 && ballot.Compare(y, z) < 0 && ballot.Compare(x, z) >= 0 {
						t.Fatalf("%v, %v, %v", x, y, z)
					}
				}
			}
		}
	}
}

func TestTwoPlacesBallots(t *testing.T) { // P13.4: never the same, also such as are made above the same ones
	for _, c := range choirs() {
		var l []api.Ballot
		made := map[api.Ballot]int{}
		for i := range 20 * int(c) {
			place := i * 2 % int(c)
			b, e := ballot.Above(c, place, l...)
			if e != api.OK || b.Place != place || !ballot.May(c, i, b) {
				t.Fatal(b, e)
			}
			for _, elder := range l {
				if ballot.Compare(elder, b) >= 0 {
					t.Fatalf("%v is not above %v", b, elder)
				}
			}
			for other := range int(c) {
				if o, _ := ballot.Above(c, other, l...); other != place && ballot.Compare(o, b) == 0 {
					t.Fatalf("%v of %d and of %d", b, place, other)
				}
			}
			made[b]++
			l = append(l, b)
		}
		if len(made) != len(l) {
			t.Fatalf("%d of %d ballots", len(made), len(l))
		}
	}
}

func TestTwoThatWon(t *testing.T) { // P13.4: they have a place in common; such as did not win need not
	for _, c := range choirs() {
		apart := false
		all := make([]*ballot.Votes, 1<<c)
		for bits := range all {
			all[bits] = votes(t, c, set(c, bits)...)
		}
		for _, a := range all {
			for _, b := range all {
				common := false
				for place := range a.Places() {
					common = common || b.Has(place)
				}
				if a.Won() && b.Won() && !common {
					t.Fatalf("%v and %v, of %d", slices.Collect(a.Places()), slices.Collect(b.Places()), c)
				}
				apart = apart || a.Won() && !common && b.Many() == a.Many()-1
			}
		}
		if !apart {
			t.Fatalf("less than a majority of %d must win", c)
		}
	}
}
