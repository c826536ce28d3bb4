package slots_test

import (
	"iter"
	"math"
	"math/bits"
	"math/rand"
	"slices"
	"testing"

	"antiphon/api"
	"antiphon/slots"
)

// choirs are all that may be.
func choirs() []api.Choir { return []api.Choir{3, 5, 7, 9} }

// noChoirs are some that may not be: near ones, far ones, such as are like a choir by their lowest bits.
func noChoirs() []api.Choir {
	all := []api.Choir{math.MinInt, math.MinInt + 1, math.MaxInt - 1, math.MaxInt, math.MinInt32, math.MaxInt32}
	for _, c := range []api.Choir{0, 1, 3, 5, 7, 9} {
		all = append(all, -c-1, -c-3, c+1<<32, c-1<<32, c+1<<16, c+1<<8, c+1<<62)
	}
	for c := api.Choir(-12); c <= 40; c++ {
		if !slices.Contains(choirs(), c) {
			all = append(all, c)
		}
	}
	return all
}

// huge are numbers that are no place, no turn, no slot.
func huge() []int {
	return []int{math.MinInt, math.MinInt + 1, math.MinInt + 4096, math.MinInt32, -1 << 32, 1<<32 - 1, 1 << 32, 1<<32 + 1, 1 << 62, -1 << 62, math.MaxInt32, math.MaxInt - 4096, math.MaxInt - 8, math.MaxInt - 1, math.MaxInt}
}

func noPlaces(c api.Choir) []int {
	return append(huge(), -9, -2, -1, int(c), int(c)+1, int(c)+2, 9, 10, 4095, 4096)
}

func noSlots() []int { return append(huge(), -4096, -9, -2, -1, 4096, 4097, 4099, 4105, 8192) }

// edges are numbers about which something may change, also such as may not be.
func edges() []int {
	all := noSlots()
	for i := range 24 {
		all = append(all, i, 2040+i, 4096-i)
	}
	return all
}

// slotTold is who has a slot, and at which turn.
type slotTold struct{ owner, turn int }

// allTold are all slots, told one by one: the places take turns.
func allTold(c api.Choir) [4096]slotTold {
	var all [4096]slotTold
	turn, owner := 0, 0
	for slot := range all {
		all[slot] = slotTold{owner, turn}
		if owner++; owner == int(c) {
			turn, owner = turn+1, 0
		}
	}
	return all
}

func isChoirTold(c api.Choir) bool { return slices.Contains(choirs(), c) }

// ownTold is the slots of a place, all of them.
func ownTold(c api.Choir, place int) []int {
	var own []int
	for slot, told := range allTold(c) {
		if told.owner == place {
			own = append(own, slot)
		}
	}
	return own
}

// nextTold is the first of some slots from one on.
func nextTold(own []int, from int) (int, api.Errno) {
	for _, slot := range own {
		if slot >= from {
			return slot, api.OK
		}
	}
	return 0, api.ErrRange
}

// betweenTold is those of some slots from one on, ahead of another, or that there may be none.
func betweenTold(own []int, from, to int) ([]int, api.Errno) {
	if from < 0 || to > 4096 || to < from {
		return nil, api.ErrArg
	}
	var some []int
	for _, slot := range own {
		if slot >= from && slot < to {
			some = append(some, slot)
		}
	}
	return some, api.OK
}

// roundsTold is all rounds: slots, n by n.
func roundsTold(c api.Choir) [][]int {
	var all [][]int
	for slot := range 4096 {
		if slot%int(c) == 0 {
			all = append(all, nil)
		}
		all[len(all)-1] = append(all[len(all)-1], slot)
	}
	return all
}

// is asks whether a call answered a number, and no error.
func is(t *testing.T, want int) func(int, api.Errno) {
	t.Helper()
	return func(n int, e api.Errno) {
		t.Helper()
		if n != want || e != api.OK {
			t.Fatalf("%d, %v, not %d", n, e, want)
		}
	}
}

// refused asks whether a call answered an error, and nothing beside it.
func refused(t *testing.T, why api.Errno) func(int, api.Errno) {
	t.Helper()
	return func(n int, e api.Errno) {
		t.Helper()
		if n != 0 || e != why {
			t.Fatalf("%d, %v, not %v", n, e, why)
		}
	}
}

// tells asks whether slots are gone over, and no others.
func tells(t *testing.T, own iter.Seq[int], want []int) {
	t.Helper()
	if own == nil {
		t.Fatal("there is no iterator")
	}
	if got := slices.Collect(own); !slices.Equal(got, want) {
		t.Fatalf("%d slots, %v, not %d, %v", len(got), got, len(want), want)
	}
}

// tellsRounds asks whether rounds are gone over, by their numbers, and no others.
func tellsRounds(t *testing.T, rounds iter.Seq2[int, []int], want [][]int) {
	t.Helper()
	if rounds == nil {
		t.Fatal("there is no iterator")
	}
	n := 0
	for number, round := range rounds {
		if n == len(want) || number != n || !slices.Equal(round, want[n]) {
			t.Fatalf("behind %d of %d rounds: %d, %v", n, len(want), number, round)
		}
		n++
	}
	if n != len(want) {
		t.Fatalf("%d rounds, not %d", n, len(want))
	}
}

func TestExamples(t *testing.T) { // P12.1, P12.2
	is(t, 1)(slots.Owner(3, 7))
	is(t, 2)(slots.Turn(3, 7))
	is(t, 7)(slots.Slot(3, 1, 2))
	is(t, 3)(slots.Majority(5))
	is(t, 6)(slots.Next(3, 0, 4))
	is(t, 4095)(slots.Next(3, 0, 4095))
	is(t, 3)(slots.Many(3, 2, 0, 9))
	if e := slots.Check(4); e != api.ErrArg {
		t.Error(e)
	}
	is(t, 4095)(slots.Slot(3, 0, 1365))
	refused(t, api.ErrRange)(slots.Slot(3, 1, 1365))
	refused(t, api.ErrRange)(slots.Owner(3, 4096))
}

func TestCheck(t *testing.T) { // P12.1: odd, from 3 to 9
	for _, c := range choirs() {
		if e := slots.Check(c); e != api.OK {
			t.Errorf("Check(%d) = %v", c, e)
		}
	}
	for _, c := range noChoirs() {
		if e := slots.Check(c); e != api.ErrArg {
			t.Errorf("Check(%d) = %v", c, e)
		}
	}
}

func TestMajority(t *testing.T) { // P12.1: the least number that is more than half
	for _, c := range choirs() {
		least := 0
		for 2*least <= int(c) {
			least++
		}
		is(t, least)(slots.Majority(c))
	}
	is(t, 2)(slots.Majority(3))
	is(t, 5)(slots.Majority(9))
	for _, c := range noChoirs() {
		refused(t, api.ErrArg)(slots.Majority(c))
	}
}

func TestOwnerAndTurn(t *testing.T) { // P12.1, P12.4: each slot is one place's, at one turn
	for _, c := range choirs() {
		for slot, told := range allTold(c) {
			is(t, told.owner)(slots.Owner(c, slot))
			is(t, told.turn)(slots.Turn(c, slot))
			is(t, slot)(slots.Slot(c, told.owner, told.turn))
		}
		for _, slot := range noSlots() {
			refused(t, api.ErrRange)(slots.Owner(c, slot))
			refused(t, api.ErrRange)(slots.Turn(c, slot))
		}
	}
}

func TestOwnerAndTurnOfNoChoir(t *testing.T) { // P12.1: ErrArg, also where the slot is none
	for _, c := range noChoirs() {
		for _, slot := range edges() {
			refused(t, api.ErrArg)(slots.Owner(c, slot))
			refused(t, api.ErrArg)(slots.Turn(c, slot))
		}
	}
}

func TestSlot(t *testing.T) { // P12.1, P12.4: each place's turns, from the first to the last one
	for _, c := range choirs() {
		for place := range int(c) {
			own := ownTold(c, place)
			for turn, slot := range own {
				is(t, slot)(slots.Slot(c, place, turn))
			}
			for turn := len(own); turn < 5000; turn++ {
				refused(t, api.ErrRange)(slots.Slot(c, place, turn))
			}
			for turn := -5000; turn < 0; turn++ {
				refused(t, api.ErrRange)(slots.Slot(c, place, turn))
			}
		}
	}
}

func TestSlotOfFarTurns(t *testing.T) { // P12.1: also of those by which a product would come round to a slot
	for _, c := range choirs() {
		far := huge()
		for bit := 13; bit < 64; bit++ {
			for near := -20; near <= 20; near++ {
				far = append(far, 1<<uint(bit)+near, -1<<uint(bit)+near, math.MaxInt/int(c)+near, math.MinInt/int(c)+near, 2*(math.MaxInt/int(c))+near, int(math.MaxUint/uint(c))+near)
			}
		}
		for _, turn := range far {
			for place := range int(c) {
				refused(t, api.ErrRange)(slots.Slot(c, place, turn))
			}
		}
	}
}

func TestSlotOfNoPlace(t *testing.T) { // P12.1: ErrArg, also where there is no such turn
	for _, turn := range edges() {
		for _, c := range choirs() {
			for _, place := range noPlaces(c) {
				refused(t, api.ErrArg)(slots.Slot(c, place, turn))
			}
		}
		for _, c := range noChoirs() {
			for _, place := range append(noPlaces(c), 0, 1, 2) {
				refused(t, api.ErrArg)(slots.Slot(c, place, turn))
			}
		}
	}
}

func TestNext(t *testing.T) { // P12.2: from each slot on, also from ahead of the first, from behind the last
	for _, c := range choirs() {
		for place := range int(c) {
			own := ownTold(c, place)
			next := 0
			for from := -20; from <= 4120; from++ {
				for next < len(own) && own[next] < from {
					next++
				}
				if next == len(own) {
					refused(t, api.ErrRange)(slots.Next(c, place, from))
				} else {
					is(t, own[next])(slots.Next(c, place, from))
				}
			}
			for _, from := range edges() {
				slot, e := slots.Next(c, place, from)
				if want, why := nextTold(own, from); slot != want || e != why {
					t.Fatalf("Next(%d, %d, %d) = %d, %v, not %d, %v", c, place, from, slot, e, want, why)
				}
			}
		}
	}
}

func TestNextOneByOne(t *testing.T) { // P12.2: from behind each on, so all are found
	for _, c := range choirs() {
		for place := range int(c) {
			var own []int
			from := math.MinInt
			for {
				slot, e := slots.Next(c, place, from)
				if e != api.OK {
					refused(t, api.ErrRange)(slot, e)
					break
				}
				own, from = append(own, slot), slot+1
			}
			if want := ownTold(c, place); !slices.Equal(own, want) {
				t.Fatalf("%d slots of the place %d of %d, not %d", len(own), place, c, len(want))
			}
		}
	}
}

func TestNextOfNoPlace(t *testing.T) { // P12.2: ErrArg, also where there is none from there on
	for _, from := range edges() {
		for _, c := range choirs() {
			for _, place := range noPlaces(c) {
				refused(t, api.ErrArg)(slots.Next(c, place, from))
			}
		}
		for _, c := range noChoirs() {
			for _, place := range append(noPlaces(c), 0, 1, 2) {
				refused(t, api.ErrArg)(slots.Next(c, place, from))
			}
		}
	}
}

// between asks Many and Own of a place's slots from one on, ahead of another.
func between(t *testing.T, c api.Choir, place int, own []int, from, to int) {
	t.Helper()
	want, why := betweenTold(own, from, to)
	if many, e := slots.Many(c, place, from, to); many != len(want) || e != why {
		t.Fatalf("Many(%d, %d, %d, %d) = %d, %v, not %d, %v", c, place, from, to, many, e, len(want), why)
	}
	tells(t, slots.Own(c, place, from, to), want)
}

func TestManyAndOwn(t *testing.T) { // P12.2: at all edges, also of what is refused
	for _, c := range choirs() {
		for place := range int(c) {
			own := ownTold(c, place)
			for _, from := range edges() {
				for _, to := range edges() {
					between(t, c, place, own, from, to)
				}
			}
		}
	}
}

func TestManyAndOwnUpToEach(t *testing.T) { // P12.2: from the first slot up to each, from each up to the last
	for _, c := range choirs() {
		for place := range int(c) {
			own := ownTold(c, place)
			ahead := 0
			for slot := range 4097 {
				is(t, ahead)(slots.Many(c, place, 0, slot))
				is(t, len(own)-ahead)(slots.Many(c, place, slot, 4096))
				is(t, 0)(slots.Many(c, place, slot, slot))
				if slot%13 == 0 {
					tells(t, slots.Own(c, place, 0, slot), own[:ahead])
					tells(t, slots.Own(c, place, slot, 4096), own[ahead:])
				}
				if ahead < len(own) && own[ahead] == slot {
					ahead++
				}
			}
		}
	}
}

func TestManyAndOwnOfSome(t *testing.T) { // P12.2
	mix := rand.New(rand.NewSource(12))
	for _, c := range choirs() {
		for place := range int(c) {
			own := ownTold(c, place)
			for range 300 {
				from := mix.Intn(4097)
				between(t, c, place, own, from, from+mix.Intn(4097-from))
				between(t, c, place, own, mix.Intn(4300)-100, mix.Intn(4300)-100)
				between(t, c, place, own, from, from+mix.Intn(30))
			}
		}
	}
}

func TestManyAndOwnOfNoPlace(t *testing.T) { // P12.2: ErrArg; there is an iterator, which tells nothing
	ends := []int{math.MinInt, -1, 0, 1, 9, 4095, 4096, 4097, math.MaxInt}
	for _, from := range ends {
		for _, to := range ends {
			for _, c := range choirs() {
				for _, place := range noPlaces(c) {
					refused(t, api.ErrArg)(slots.Many(c, place, from, to))
					tells(t, slots.Own(c, place, from, to), nil)
				}
			}
			for _, c := range noChoirs() {
				for _, place := range append(noPlaces(c), 0, 1, 2) {
					refused(t, api.ErrArg)(slots.Many(c, place, from, to))
					tells(t, slots.Own(c, place, from, to), nil)
				}
			}
		}
	}
}

func TestOwnIsLeft(t *testing.T) { // P12.2: at any time, and gone over again, also within itself
	own := slots.Own(5, 3, 7, 90)
	want, _ := betweenTold(ownTold(5, 3), 7, 90)
	for most := range len(want) + 1 {
		var seen []int
		for slot := range own {
			if len(seen) == most {
				break
			}
			seen = append(seen, slot)
		}
		if !slices.Equal(seen, want[:most]) {
			t.Fatalf("the first %d = %v", most, seen)
		}
	}
	n := 0
	for range own {
		for slot := range own {
			if slot != want[n%len(want)] {
				t.Fatalf("the slot %d = %d", n, slot)
			}
			n++
		}
	}
	if n != len(want)*len(want) {
		t.Fatalf("it told %d slots", n)
	}
}

func TestOwnIsLeftAtOnce(t *testing.T) { // P12.2: behind the last thing that was asked for nothing more is told
	for _, c := range choirs() {
		for most := 1; most < 9; most++ {
			n := 0
			slots.Own(c, 1, 0, 4096)(func(int) bool { n++; return n < most })
			if n != most {
				t.Fatalf("%d slots were told, not %d", n, most)
			}
		}
	}
}

func TestRounds(t *testing.T) { // P12.3: all, the last one with fewer slots
	for _, c := range choirs() {
		want := roundsTold(c)
		if last := want[len(want)-1]; len(last) != 4096%int(c) || len(want) != 4096/int(c)+1 {
			t.Fatalf("the last of %d rounds has %d slots", len(want), len(last))
		}
		tellsRounds(t, slots.Rounds(c), want)
	}
	for _, c := range noChoirs() {
		tellsRounds(t, slots.Rounds(c), nil)
	}
}

func TestRoundsAreLeft(t *testing.T) { // P12.3: at any time, and gone over again, also within themselves
	for _, c := range choirs() {
		rounds, want := slots.Rounds(c), roundsTold(c)
		for _, most := range []int{0, 1, 2, 7, len(want) - 1, len(want)} {
			n := 0
			for number, round := range rounds {
				if n == most {
					break
				}
				if number != n || !slices.Equal(round, want[n]) {
					t.Fatalf("the round %d = %d, %v", n, number, round)
				}
				n++
			}
			if n != most {
				t.Fatalf("%d rounds, not %d", n, most)
			}
		}
		for number := range rounds {
			if number == 2 {
				break
			}
			tellsRounds(t, rounds, want)
		}
	}
}

func TestRoundsAreLeftAtOnce(t *testing.T) { // P12.3: behind the last one that was asked for nothing more is told
	for _, c := range choirs() {
		for most := 1; most < 9; most++ {
			n := 0
			slots.Rounds(c)(func(int, []int) bool { n++; return n < most })
			if n != most {
				t.Fatalf("%d rounds were told, not %d", n, most)
			}
		}
	}
}

func TestAnswersAreNew(t *testing.T) { // P12.3: who changes a round changes no other one, not by what stands behind it either
	for _, c := range choirs() {
		rounds, want := slots.Rounds(c), roundsTold(c)
		var all [][]int
		for number, round := range rounds {
			all = append(all, round)
			if !slices.Equal(round, want[number]) {
				t.Fatalf("the round %d = %v", number, round)
			}
		}
		for number, round := range all {
			if !slices.Equal(round, want[number]) {
				t.Fatalf("the round %d has become %v", number, round)
			}
			whole := round[:cap(round)]
			for i := range whole {
				whole[i] = -1
			}
		}
		for number, round := range rounds {
			for i := range round {
				round[i] += 7
			}
			_ = append(round[:0:cap(round)], slices.Repeat([]int{-2}, cap(round))...)
			if slices.Contains(all[number], -2) {
				t.Fatalf("the round %d shares memory with itself, told elsewhere", number)
			}
		}
		tellsRounds(t, rounds, want)
	}
}

func TestTwoMajorities(t *testing.T) { // P12.4: one place at least is in both; of fewer places that does not hold
	for _, c := range choirs() {
		most, e := slots.Majority(c)
		if e != api.OK {
			t.Fatal(e)
		}
		apart := false
		for a := range uint(1) << c {
			for b := range uint(1) << c {
				if bits.OnesCount(a) >= most && bits.OnesCount(b) >= most && a&b == 0 {
					t.Fatalf("%b and %b of %d places", a, b, c)
				}
				apart = apart || bits.OnesCount(a) >= most-1 && bits.OnesCount(b) >= most && a&b == 0
			}
		}
		if !apart {
			t.Fatalf("%d of %d is not the least", most, c)
		}
	}
}

func TestAllThatAreBetween(t *testing.T) { // P12.4: the slots of all places are all there are, each once
	mix := rand.New(rand.NewSource(4))
	for _, c := range choirs() {
		for i := range 200 {
			from := mix.Intn(4097)
			to := from + mix.Intn(4097-from)
			if i == 0 {
				from, to = 0, 4096
			}
			var all []int
			sum := 0
			for place := range int(c) {
				many, e := slots.Many(c, place, from, to)
				if e != api.OK {
					t.Fatal(e)
				}
				sum += many
				all = slices.AppendSeq(all, slots.Own(c, place, from, to))
			}
			slices.Sort(all)
			if len(all) != to-from || sum != to-from {
				t.Fatalf("%d slots, %d are told, from %d, ahead of %d", len(all), sum, from, to)
			}
			for i, slot := range all {
				if slot != from+i {
					t.Fatalf("%d, not %d", slot, from+i)
				}
			}
		}
	}
}

func TestOneOwnerOneTurn(t *testing.T) { // P12.4: of no two places' turns the slots are the same
	for _, c := range choirs() {
		var seen [4096]int
		for place := range int(c) {
			for turn := range 4096 {
				slot, e := slots.Slot(c, place, turn)
				if e != api.OK {
					continue
				}
				seen[slot]++
				is(t, place)(slots.Owner(c, slot))
				is(t, turn)(slots.Turn(c, slot))
			}
		}
		for slot, n := range seen {
			if n != 1 {
				t.Fatalf("the slot %d is at %d turns", slot, n)
			}
		}
	}
}

func TestAgain(t *testing.T) { // each call is answered alike each time, whatever was called between
	for range 3 {
		TestExamples(t)
		for _, c := range append(noChoirs(), choirs()...) {
			for range slots.Rounds(c) {
				break
			}
			slots.Next(c, 1, -5)
			slots.Many(c, 1, 5, 3)
		}
	}
}

// small makes the test below come to numbers that go as well as to those that may not be.
func small(n, most int64) int {
	if n%5 == 0 {
		return int(n)
	}
	return int(n%most + most/8)
}

func FuzzSlots(f *testing.F) { // P12.1 to P12.4: whatever is asked: what the document tells
	f.Add(int64(3), int64(1), int64(7), int64(90))
	f.Add(int64(9), int64(8), int64(-1), int64(4097))
	f.Add(int64(4), int64(0), int64(0), int64(4096))
	f.Add(int64(math.MinInt64), int64(math.MaxInt64), int64(math.MaxInt64), int64(math.MinInt64))
	f.Fuzz(func(t *testing.T, n, p, a, b int64) {
		c, place, from, to := api.Choir(small(n, 11)), small(p, 11), small(a, 4500), small(b, 4500)
		if !isChoirTold(c) || place < 0 || place >= int(c) {
			refused(t, api.ErrArg)(slots.Slot(c, place, from))
			refused(t, api.ErrArg)(slots.Next(c, place, from))
			refused(t, api.ErrArg)(slots.Many(c, place, from, to))
			tells(t, slots.Own(c, place, from, to), nil)
			return
		}
		own := ownTold(c, place)
		between(t, c, place, own, from, to)
		slot, e := slots.Next(c, place, from)
		if want, why := nextTold(own, from); slot != want || e != why {
			t.Fatalf("Next(%d, %d, %d) = %d, %v, not %d, %v", c, place, from, slot, e, want, why)
		}
		if from < 0 || from >= len(own) {
			refused(t, api.ErrRange)(slots.Slot(c, place, from))
		} else {
			is(t, own[from])(slots.Slot(c, place, from))
		}
		if from < 0 || from >= 4096 {
			refused(t, api.ErrRange)(slots.Owner(c, from))
			refused(t, api.ErrRange)(slots.Turn(c, from))
		} else {
			told := allTold(c)[from]
			is(t, told.owner)(slots.Owner(c, from))
			is(t, told.turn)(slots.Turn(c, from))
		}
	})
}
