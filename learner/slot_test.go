package learner_test

import (
	"encoding/binary"
	"fmt"
	"math/rand"
	"slices"
	"testing"

	"antiphon/acceptor"
	"antiphon/api"
	"antiphon/learner"
	"antiphon/proposer"
)

// What a message is: each may come as often as one likes once it was sent, in whatever order, or not at all.
const (
	asks     = 'a' // a proposer asks a place to promise
	gives    = 'g' // a proposer asks a place to accept
	promises = 'p' // a place promised, and tells what it had accepted
	accepts  = 't' // a place accepted
	refuses  = 'r' // a place refused, and tells what it had promised
)

type message struct {
	what     byte
	asker    int // which proposer it comes from, or goes to
	place    int
	told     api.Accepted // of gives and accepts: what is given, and by which ballot
	promised api.Ballot   // of refuses
}

// life is what goes on about one slot: places, who asks them, and what they said.
type life struct {
	places   []*acceptor.Acceptor
	askers   []*proposer.Proposer
	messages []message
	skips    bool // the owner gives nothing, and says so
}

// given is what the owner gives, if it does not skip.
func given() api.Entry { return say("hi") }

// beginLife is a life whose owner gives or skips, with others that ask by these ballots.
func beginLife(t *testing.T, c api.Choir, slot int, skips bool, ballots ...api.Ballot) *life {
	t.Helper()
	v := &life{skips: skips}
	for range int(c) {
		a, e := acceptor.New(c, slot)
		if e != api.OK {
			t.Fatal(e)
		}
		v.places = append(v.places, a)
	}
	add := func(p *proposer.Proposer, e api.Errno) {
		t.Helper()
		if e != api.OK {
			t.Fatal(e)
		}
		v.askers = append(v.askers, p)
		v.speaks(len(v.askers) - 1)
	}
	if !skips {
		add(proposer.Own(c, slot, given()))
	}
	for _, b := range ballots {
		add(proposer.Ask(c, slot, b))
	}
	return v
}

// copy is another life that goes on apart: who hears something is replaced then by another one.
func (v *life) copy() *life {
	return &life{slices.Clone(v.places), slices.Clone(v.askers), slices.Clone(v.messages), v.skips}
}

// put sends a message, if it was not sent yet.
func (v *life) put(m message) {
	if !slices.Contains(v.messages, m) {
		v.messages = append(v.messages, m)
	}
}

// speaks lets a proposer say what it says at its phase, to all places.
func (v *life) speaks(asker int) {
	state := v.askers[asker].State()
	for place := range v.places {
		switch state.Phase {
		case api.ProposeAsk:
			v.put(message{what: asks, asker: asker, place: place})
		case api.ProposeGive:
			v.put(message{what: gives, asker: asker, place: place, told: api.Accepted{Ballot: state.Ballot, Entry: state.Entry}})
		}
	}
}

// comes lets a message come, and sends what is answered.
func (v *life) comes(m message) {
	a, p := v.places[m.place].Copy(), v.askers[m.asker].Copy()
	v.places[m.place], v.askers[m.asker] = a, p
	answer, took := m, false
	switch m.what {
	case asks:
		answer.what = promises
		answer.told, took, _ = a.Promise(p.State().Ballot)
	case gives:
		answer.what = accepts
		took, _ = a.Accept(m.told.Ballot, m.told.Entry)
	case promises:
		p.Promised(m.place, m.told)
	case accepts:
		p.Accepted(m.place)
	case refuses:
		p.Refused(m.place, m.promised)
	}
	switch {
	case m.what != asks && m.what != gives:
		v.speaks(m.asker)
	case took:
		v.put(answer)
	case a.Promised() != p.State().Ballot: // else it was promised already
		v.put(message{what: refuses, asker: m.asker, place: m.place, promised: a.Promised()})
	}
}

// agree asks whether all that know what is chosen know the same, and such as may be; it tells what that is.
func (v *life) agree(t *testing.T, all ...*learner.Learner) (api.Entry, bool) {
	t.Helper()
	var chosen []api.Entry
	for _, l := range all {
		if e, is := l.Chosen(); is {
			chosen = append(chosen, e)
		}
	}
	for _, p := range v.askers {
		if s := p.State(); s.Phase == api.ProposeDone {
			chosen = append(chosen, s.Entry)
		}
	}
	for _, e := range chosen {
		if e != chosen[0] || e != none() && (v.skips || e != given()) {
			t.Fatalf("%v are chosen; does the owner skip: %v", chosen, v.skips)
		}
	}
	if chosen == nil {
		return api.Entry{}, false
	}
	return chosen[0], true
}

// hears lets a learner hear what a place accepted: there is no clash.
func hears(t *testing.T, l *learner.Learner, m message) {
	t.Helper()
	if _, e := l.Hear(m.place, m.told.Ballot, m.told.Entry); e != api.OK {
		t.Fatalf("%v, of %v behind %v", e, m, l.Heard())
	}
}

// isLike tells whether two lives, one of which came of the other, are the same.
func (v *life) isLike(other *life) bool {
	return len(v.messages) == len(other.messages) && slices.EqualFunc(v.places, other.places, acceptor.Same) && slices.EqualFunc(v.askers, other.askers, proposer.Same)
}

// names numbers things, each one anew that did not come yet.
type names map[any]int

func (n names) name(thing any) uint16 {
	if _, is := n[thing]; !is {
		n[thing] = len(n)
	}
	return uint16(n[thing])
}

// key tells lives apart that can go on otherwise. (Of what a proposer was told all is among the messages.)
func (v *life) key(n names) string {
	var all []uint16
	for _, m := range v.messages {
		all = append(all, n.name(m))
	}
	slices.Sort(all)
	for place, a := range v.places {
		accepted, _ := a.Accepted()
		all = append(all, n.name([3]any{place, a.Promised(), accepted}))
	}
	for asker, p := range v.askers {
		s := p.State()
		all = append(all, n.name([4]any{asker, s.Phase, s.Entry, fmt.Sprint(s.Votes, s.Above)}))
	}
	var key []byte
	for _, number := range all {
		key = binary.LittleEndian.AppendUint16(key, number)
	}
	return string(key)
}

// everyWay goes all ways that a life of 3 places can go, and asks at each step what one knows who hears all that is accepted. (Proposers are told, if that is so, who accepted; they are not told who refused, which only ends them.) It tells in how many states the owner's entry is chosen, and in how many nothing.
func everyWay(t *testing.T, first *life, areTold bool) (own, nothing int) {
	t.Helper()
	n := names{}
	all, seen := []*life{first}, map[string]bool{first.key(n): true}
	for i := 0; i < len(all); i++ {
		now, l := all[i], begin(t, 3, 1)
		for _, m := range now.messages {
			if m.what == accepts {
				hears(t, l, m)
			}
		}
		chosen, is := now.agree(t, l)
		switch {
		case is && chosen == none():
			nothing++
		case is:
			own++
		}
		for _, m := range now.messages {
			if m.what == accepts && !areTold {
				continue
			}
			next := now.copy()
			next.comes(m)
			next.messages = slices.DeleteFunc(next.messages, func(m message) bool { return m.what == refuses })
			for _, m := range next.messages[len(now.messages):] {
				if m.what == accepts { // one more: what is chosen stays
					later := l.Copy()
					hears(t, later, m)
					if then, still := next.agree(t, later); is && (!still || then != chosen) {
						t.Fatalf("%v was chosen, then %v", chosen, then)
					}
				}
			}
			if now.isLike(next) {
				continue
			}
			if key := next.key(n); !seen[key] {
				seen[key] = true
				all = append(all, next)
			}
		}
	}
	return own, nothing
}

func TestEveryWay(t *testing.T) { // P16.3, P16.4: of 3 places, with one that asks, or with two
	for _, skips := range []bool{false, true} {
		asked := func(areTold bool, ballots ...api.Ballot) {
			t.Helper()
			own, nothing := everyWay(t, beginLife(t, 3, 1, skips, ballots...), areTold)
			if nothing == 0 || (own == 0) != skips {
				t.Errorf("by %v, skipped %v: in %d states the owner's is chosen, in %d nothing", ballots, skips, own, nothing)
			}
		}
		for place := range 3 {
			asked(true, of(1, place))
		}
		asked(false, of(1, 0), of(1, 2))
	}
}

// oneKnows tells a learner what another one knows, or a proposer that is done, or that the owner skips, as a number picks: there is no clash.
func (v *life) oneKnows(t *testing.T, l *learner.Learner, others []*learner.Learner, pick int) {
	t.Helper()
	e, is := others[pick%len(others)].Chosen()
	if s := v.askers[pick%len(v.askers)].State(); !is && s.Phase == api.ProposeDone {
		e, is = s.Entry, true
	}
	if is {
		if _, why := l.Told(e); why != api.OK {
			t.Fatalf("%v, told %v behind %v", why, e, l.Heard())
		}
	}
	if v.skips && pick%3 == 0 {
		if _, why := l.Skipped(); why != api.OK {
			t.Fatalf("%v, skipped behind %v", why, l.Heard())
		}
	}
}

// someBallots are a few ballots above round 0, each another one, as a source picks.
func someBallots(mix *rand.Rand, c api.Choir) []api.Ballot {
	all := speak(c, 0, 1, 2, 3, top)[1:]
	mix.Shuffle(len(all), func(i, j int) { all[i], all[j] = all[j], all[i] })
	return all[:1+mix.Intn(5)]
}

func TestManyWays(t *testing.T) { // P16.3, P16.4: of all choirs; some messages never come, some learners hear of some alone, or are told
	mix := rand.New(rand.NewSource(19))
	for _, c := range choirs() {
		own, nothing := 0, 0
		for i := range 150 {
			slot, skips := mix.Intn(4096), i%4 == 0
			v := beginLife(t, c, slot, skips, someBallots(mix, c)...)
			learners := []*learner.Learner{begin(t, c, slot), begin(t, c, slot), begin(t, c, slot)}
			lost := map[message]bool{}
			var chosen api.Entry
			known := false
			for range 60 * int(c) {
				m := v.messages[mix.Intn(len(v.messages))]
				if _, is := lost[m]; !is {
					lost[m] = mix.Intn(6) == 0
				}
				if !lost[m] {
					v.comes(m)
				}
				l := learners[mix.Intn(len(learners))]
				if m.what == accepts {
					hears(t, l, m)
				}
				if mix.Intn(20) == 0 {
					v.oneKnows(t, l, learners, mix.Intn(60))
				}
				now, is := v.agree(t, learners...)
				if known && (!is || now != chosen) {
					t.Fatalf("%v was chosen, then %v", chosen, now)
				}
				chosen, known = now, is
			}
			switch {
			case known && chosen == given():
				own++
			case known && !skips:
				nothing++
			}
		}
		if own < 10 || nothing < 10 {
			t.Errorf("of %d places: the owner's is chosen %d times, nothing %d times, though it gave", c, own, nothing)
		}
	}
}
