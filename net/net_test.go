package net_test

import (
	"bytes"
	"math"
	"math/big"
	"math/rand"
	"runtime"
	"slices"
	"strings"
	"testing"

	"antiphon/api"
	"antiphon/net"
)

// parcelTold is a message on its way.
type parcelTold struct {
	number   int64
	from, to int
	bytes    string
}

// netTold is a net as the document tells it.
type netTold struct {
	ends, most int
	came       int64
	down       [][2]int // in no order, each once
	on         []parcelTold
}

func (m *netTold) copied() *netTold {
	other := *m
	other.down, other.on = slices.Clone(m.down), slices.Clone(m.on)
	return &other
}

func (m *netTold) isDown(from, to int) bool { return slices.Contains(m.down, [2]int{from, to}) }

func (m *netTold) isEnd(end int) bool { return end >= 0 && end < m.ends }

// among is what a pick on a link, or on all, picks among.
func (m *netTold) among(from, to int) []parcelTold {
	if from == -1 && to == -1 {
		return m.on
	}
	var some []parcelTold
	for _, p := range m.on {
		if p.from == from && p.to == to {
			some = append(some, p)
		}
	}
	return some
}

// pick is what a pick picks.
func (m *netTold) pick(x deed) parcelTold {
	some := m.among(x.from, x.to)
	return some[new(big.Int).Mod(big.NewInt(int64(x.pick)), big.NewInt(int64(len(some)))).Int64()]
}

// deed is a call that may change a net, or Peek.
type deed struct {
	call     string
	from, to int
	pick     int
	bytes    string
	is       bool
}

func put(from, to int, b string) deed    { return deed{call: "Put", from: from, to: to, bytes: b} }
func peek(from, to, pick int) deed       { return deed{call: "Peek", from: from, to: to, pick: pick} }
func take(from, to, pick int) deed       { return deed{call: "Take", from: from, to: to, pick: pick} }
func drop(from, to, pick int) deed       { return deed{call: "Drop", from: from, to: to, pick: pick} }
func down(from, to int, is bool) deed    { return deed{call: "Down", from: from, to: to, is: is} }
func picks(x deed) bool                  { return x.call == "Peek" || x.call == "Take" || x.call == "Drop" }
func refused(e api.Errno) got            { return got{e: e} }
func is(n int64, f, t int, b string) got { return got{parcelTold: parcelTold{n, f, t, b}} }

// got is what such a call answers.
type got struct {
	parcelTold
	e api.Errno
}

// refusedTold tells why a deed is none.
func (m *netTold) refusedTold(x deed) api.Errno {
	all := picks(x) && x.from == -1 && x.to == -1
	if !all && !(m.isEnd(x.from) && m.isEnd(x.to)) {
		return api.ErrArg
	}
	switch {
	case picks(x) && len(m.among(x.from, x.to)) == 0:
		return api.ErrNone
	case x.call == "Peek" || x.call == "Take":
		if p := m.pick(x); m.isDown(p.from, p.to) {
			return api.ErrDown
		}
	case x.call == "Put" && len(x.bytes) > 8192:
		return api.ErrLong
	case x.call == "Put" && m.isDown(x.from, x.to):
		return api.ErrDown
	case x.call == "Put" && len(m.on) >= m.most:
		return api.ErrCrowd
	}
	return api.OK
}

// doTold does a deed as the document tells it.
func (m *netTold) doTold(x deed) got {
	if e := m.refusedTold(x); e != api.OK {
		return refused(e)
	}
	switch x.call {
	case "Put":
		m.on = append(m.on, parcelTold{m.came, x.from, x.to, x.bytes})
		m.came++
		return is(m.came-1, 0, 0, "")
	case "Down":
		on := [2]int{x.from, x.to}
		m.down = slices.DeleteFunc(m.down, func(other [2]int) bool { return other == on })
		if x.is {
			m.down = append(m.down, on)
		}
		return got{}
	}
	p := m.pick(x)
	if x.call != "Peek" {
		m.on = slices.DeleteFunc(m.on, func(other parcelTold) bool { return other.number == p.number })
	}
	if x.call == "Drop" {
		return is(p.number, 0, 0, "")
	}
	return got{parcelTold: p}
}

// do does a deed.
func do(n *net.Net, x deed) got {
	var g got
	switch x.call {
	case "Put":
		g.number, g.e = n.Put(x.from, x.to, []byte(x.bytes))
	case "Drop":
		g.number, g.e = n.Drop(x.from, x.to, x.pick)
	case "Down":
		g.e = n.Down(x.from, x.to, x.is)
	default:
		var p api.Parcel
		if x.call == "Peek" {
			p, g.e = n.Peek(x.from, x.to, x.pick)
		} else {
			p, g.e = n.Take(x.from, x.to, x.pick)
		}
		g.parcelTold = told(p)
	}
	return g
}

func told(p api.Parcel) parcelTold { return parcelTold{p.Number, p.From, p.To, string(p.Bytes)} }

// listed is what a net tells of all that is on its way.
func listed(n *net.Net) []parcelTold {
	var all []parcelTold
	for p := range n.All() {
		all = append(all, told(p))
	}
	return all
}

func fresh(t *testing.T, ends, most int) *net.Net {
	t.Helper()
	n, e := net.New(ends, most)
	if n == nil || e != api.OK {
		t.Fatalf("New(%d, %d) = %v, %v", ends, most, n, e)
	}
	return n
}

// made is a net that stands as is told, made by as few calls as may be.
func (m *netTold) made(t *testing.T) *net.Net {
	t.Helper()
	n := fresh(t, m.ends, m.most)
	on := m.on
	for number := range m.came {
		if len(on) > 0 && on[0].number == number {
			answers(t, n, put(on[0].from, on[0].to, on[0].bytes), is(number, 0, 0, ""))
			on = on[1:]
			continue
		}
		answers(t, n, put(0, 0, "gone"), is(number, 0, 0, ""))
		answers(t, n, drop(-1, -1, -1), is(number, 0, 0, ""))
	}
	for _, on := range m.down {
		answers(t, n, down(on[0], on[1], true), got{})
	}
	return n
}

func answers(t *testing.T, n *net.Net, x deed, want got) {
	t.Helper()
	if g := do(n, x); g != want {
		t.Fatalf("%s = %s, not %s", x.shown(), g.shown(), want.shown())
	}
}

// does asks whether deeds do and answer what is told of them.
func does(t *testing.T, n *net.Net, m *netTold, all ...deed) {
	t.Helper()
	for _, x := range all {
		answers(t, n, x, m.doTold(x))
	}
}

// shown is the deed, of many bytes only the first ones.
func (x deed) shown() string {
	return strings.Join([]string{x.call, number(int64(x.from)), number(int64(x.to)), number(int64(x.pick)), short(x.bytes), number(len(x.bytes))}, " ")
}

func (g got) shown() string {
	return strings.Join([]string{number(g.number), number(g.from), number(g.to), short(g.bytes), number(len(g.bytes)), g.e.Error()}, " ")
}

func number[N int | int64](n N) string { return big.NewInt(int64(n)).String() }

func short(s string) string { return s[:min(len(s), 20)] }

// oddEnds are ends of a net, and some that may not be.
func oddEnds(ends int) []int {
	return []int{0, 1, 2, ends - 2, ends - 1, ends, ends + 1, 64, -1, -2, math.MinInt, math.MaxInt, 1 << 32, -1 << 32, 1<<32 - 1}
}

// shows asks whether what can be seen of a net is what is told of it.
func shows(t *testing.T, n *net.Net, m *netTold) {
	t.Helper()
	if all := listed(n); !slices.Equal(all, m.on) {
		t.Fatalf("All = %v, not %v", all, m.on)
	}
	if n.Came() != m.came {
		t.Fatalf("Came = %d, not %d", n.Came(), m.came)
	}
	for _, from := range oddEnds(m.ends) {
		for _, to := range oddEnds(m.ends) {
			if got, want := n.Len(from, to), len(m.among(from, to)); got != want {
				t.Fatalf("Len(%d, %d) = %d, not %d", from, to, got, want)
			}
			if is := n.IsDown(from, to); is != m.isDown(from, to) {
				t.Fatalf("IsDown(%d, %d) = %v", from, to, is)
			}
		}
	}
}

// stands asks whether a net is as is told.
func stands(t *testing.T, n *net.Net, m *netTold) {
	t.Helper()
	shows(t, n, m)
	if other := m.made(t); !net.Same(n, other) || !net.Same(other, n) {
		t.Fatalf("it does not stand as is told: %v", m)
	}
}

// nones are nets that are not there.
func nones() []*net.Net {
	var nobody *net.Net
	refused, _ := net.New(0, 1)
	return []*net.Net{nil, {}, new(net.Net), refused, nobody.Copy(), new(net.Net).Copy()}
}

// some is a net of 4 ends with messages on several links, two of which are down, one with nothing on it; it has no room for more.
func some() *netTold {
	m := &netTold{ends: 4, most: 9, came: 14, down: [][2]int{{0, 1}, {3, 0}}}
	for i, p := range []parcelTold{{0, 0, 1, "a"}, {1, 1, 2, "b"}, {3, 0, 1, "c"}, {4, 1, 0, ""}, {7, 2, 2, "the same"}, {8, 2, 2, "the same"}, {9, 0, 2, "x\x00y"}, {12, 1, 2, "d"}, {13, 0, 1, strings.Repeat("long", 2048)}} {
		if i != 0 && p.number <= m.on[i-1].number {
			panic("not by their numbers")
		}
		m.on = append(m.on, p)
	}
	return m
}

// oddPicks are near ones and far ones, on both sides of 0.
func oddPicks() []int {
	all := []int{math.MinInt, math.MinInt + 1, math.MaxInt - 1, math.MaxInt, math.MinInt32, math.MaxInt32, 1 << 32, -1 << 32, 1<<32 + 1, 12345678, -12345678}
	for i := -30; i <= 30; i++ {
		all = append(all, i)
	}
	return all
}

func TestExamples(t *testing.T) { // P11.1 to P11.3
	n := fresh(t, 3, 10)
	answers(t, n, put(0, 1, "a"), is(0, 0, 0, ""))
	answers(t, n, put(1, 2, "b"), is(1, 0, 0, ""))
	answers(t, n, put(0, 1, "c"), is(2, 0, 0, ""))
	answers(t, n, take(0, 1, 1), is(2, 0, 1, "c"))
	answers(t, n, take(-1, -1, 1), is(1, 1, 2, "b"))
	answers(t, n, down(0, 1, true), refused(api.OK))
	answers(t, n, take(0, 1, 0), refused(api.ErrDown))
	answers(t, n, put(0, 1, "d"), refused(api.ErrDown))
	answers(t, n, drop(0, 1, 7), is(0, 0, 0, ""))
	if many := n.Len(-1, -1); many != 0 {
		t.Error(many)
	}
	answers(t, n, put(3, 0, "x"), refused(api.ErrArg))
	answers(t, n, take(0, 1, 0), refused(api.ErrNone))
	answers(t, n, take(0, -1, 0), refused(api.ErrArg))
}

func TestErrors(t *testing.T) { // P11.1: by their numbers
	if api.ErrDown != 210 || api.ErrCrowd != 211 || api.MaxParcel != 8192 {
		t.Error(api.ErrDown, api.ErrCrowd, api.MaxParcel)
	}
}

func TestNew(t *testing.T) { // P11.1: a net of its own, at the edges of both numbers; past them none
	odd := []int{math.MinInt, -1 << 32, -1, 0, 1, 2, 3, 63, 64, 65, 100, 4095, 4096, 4097, 1 << 32, 1<<32 + 1, math.MaxInt}
	for _, ends := range odd {
		for _, most := range odd {
			n, e := net.New(ends, most)
			if ends < 1 || ends > 64 || most < 1 || most > 4096 {
				if n != nil || e != api.ErrArg {
					t.Errorf("New(%d, %d) = %v, %v", ends, most, n, e)
				}
				continue
			}
			if n == nil || e != api.OK {
				t.Fatalf("New(%d, %d) = %v, %v", ends, most, n, e)
			}
			m := &netTold{ends: ends, most: most}
			stands(t, n, m)
			other := fresh(t, ends, most)
			does(t, n, m, put(0, 0, "a"), down(ends-1, 0, true), put(ends, 0, "b"), put(0, ends, "b"), put(ends-1, ends-1, "b"))
			stands(t, n, m)
			stands(t, other, &netTold{ends: ends, most: most})
		}
	}
}

func TestEachLink(t *testing.T) { // P11.1, P11.3: from each end to each, itself too, both ways apart
	for _, ends := range []int{1, 2, 3, 7, 64} {
		n := fresh(t, ends, 4096)
		for from := range ends {
			for to := range ends {
				answers(t, n, put(from, to, "hi"), is(int64(from*ends+to), 0, 0, ""))
			}
		}
		for from := range ends {
			for to := range ends {
				number := int64(from*ends + to)
				if many := n.Len(from, to); many != 1 {
					t.Fatalf("Len(%d, %d) = %d", from, to, many)
				}
				answers(t, n, down(from, to, true), got{})
				answers(t, n, take(from, to, 5), refused(api.ErrDown))
				answers(t, n, put(from, to, ""), refused(api.ErrDown))
				if !n.IsDown(from, to) || from != to && n.IsDown(to, from) {
					t.Fatalf("IsDown(%d, %d)", from, to)
				}
				answers(t, n, down(from, to, false), got{})
				answers(t, n, peek(from, to, 5), is(number, from, to, "hi"))
				answers(t, n, take(from, to, 5), is(number, from, to, "hi"))
				answers(t, n, take(from, to, 5), refused(api.ErrNone))
			}
		}
		if n.Len(-1, -1) != 0 || n.Came() != int64(ends*ends) {
			t.Errorf("Len, Came = %d, %d", n.Len(-1, -1), n.Came())
		}
	}
}

func TestLengths(t *testing.T) { // P11.1: up to 8192 bytes, whatever they are
	m := &netTold{ends: 2, most: 10}
	n := m.made(t)
	var each []byte
	for i := range 8194 {
		each = append(each, byte(i*i>>3))
	}
	for _, many := range []int{0, 1, 2, 255, 256, 4096, 8191, 8192, 8193, 8194} {
		does(t, n, m, put(0, 1, string(each[:many])), put(1, 1, string(each[8194-many:])))
		stands(t, n, m)
		does(t, n, m, peek(0, 1, 0), take(-1, -1, 1), take(0, 1, 0))
		stands(t, n, m)
	}
	for _, many := range []int{8193, 1 << 16, 1<<16 + 1, 1 << 20} {
		answers(t, n, put(0, 1, strings.Repeat("x", many)), refused(api.ErrLong))
	}
	stands(t, n, m)
}

func TestNoBytes(t *testing.T) { // P11.1, P11.4: nil and empty mean the same
	v, w := fresh(t, 1, 1), fresh(t, 1, 1)
	if number, e := v.Put(0, 0, nil); number != 0 || e != api.OK {
		t.Error(number, e)
	}
	if number, e := w.Put(0, 0, make([]byte, 0, 9)); number != 0 || e != api.OK {
		t.Error(number, e)
	}
	if !net.Same(v, w) || !net.Same(v.Copy(), w.Copy()) {
		t.Error("not the same")
	}
	answers(t, v, take(0, 0, 0), is(0, 0, 0, ""))
	answers(t, w, take(0, 0, 0), is(0, 0, 0, ""))
}

func TestMost(t *testing.T) { // P11.1: as many go, on all links together; one more does not, and gets no number; what is out makes room
	for _, most := range []int{1, 2, 3, 7, 512, 4096} {
		m := &netTold{ends: 3, most: most}
		n := m.made(t)
		for i := range most {
			does(t, n, m, put(i%3, i%2, number(i)))
		}
		stands(t, n, m)
		answers(t, n, put(2, 2, "more"), refused(api.ErrCrowd))
		for _, x := range []deed{
			put(2, 2, "more"), put(0, 0, ""), put(-1, 0, "more"), put(0, 3, "more"), put(0, 0, strings.Repeat("x", 8193)),
			down(1, 2, true), put(1, 2, "more"), put(2, 1, "more"), peek(-1, -1, most/2), put(1, 1, "more"), down(1, 2, false), put(1, 2, "more"),
			take(-1, -1, most/2), put(1, 2, "more"), put(1, 1, "one past it"), drop(1, 2, -1), put(2, 0, "more"), put(2, 0, "one past it"),
			take(0, 0, 0), put(2, 1, "last"), put(2, 1, "one past it"),
		} {
			does(t, n, m, x)
		}
		stands(t, n, m)
		for n.Len(-1, -1) > 0 {
			does(t, n, m, take(-1, -1, most/2))
		}
		stands(t, n, m)
		for i := range most + 1 {
			does(t, n, m, put(1, i%3, "again"))
		}
		stands(t, n, m)
	}
}

func TestPicks(t *testing.T) { // P11.2: by numbers, rising, modulo how many there are, also of picks below 0
	m := some()
	for _, from := range []int{-1, 0, 1, 2, 3} {
		for _, to := range []int{-1, 0, 1, 2, 3} {
			for _, pick := range oddPicks() {
				for _, call := range []string{"Peek", "Take", "Drop"} {
					told := m.copied()
					n := m.made(t)
					does(t, n, told, deed{call: call, from: from, to: to, pick: pick})
					shows(t, n, told)
				}
			}
		}
	}
}

func TestPicksByHand(t *testing.T) { // P11.2
	m := some()
	n := m.made(t)
	for pick, number := range map[int]int64{0: 1, 1: 12, 2: 1, 3: 12, -1: 12, -2: 1, -3: 12, math.MaxInt: 12, math.MinInt: 1} {
		if p, e := n.Peek(1, 2, pick); p.Number != number || e != api.OK {
			t.Errorf("%d on a link: %v, %v", pick, p, e)
		}
	}
	for pick, number := range map[int]int64{1: 1, 3: 4, 4: 7, 5: 8, 6: 9, 7: 12, -2: 12, -3: 9, 10: 1, -8: 1, 9007: 12} {
		if p, e := n.Peek(-1, -1, pick); p.Number != number || e != api.OK {
			t.Errorf("%d on all: %v, %v", pick, p, e)
		}
	}
	for _, pick := range []int{0, 2, 8, -1, 9, -9, 18, 9000} {
		if p, e := n.Peek(-1, -1, pick); !isNothing(p) || e != api.ErrDown {
			t.Errorf("%d on all: %v, %v", pick, p, e)
		}
	}
	stands(t, n, m)
}

// isNothing asks whether a parcel is as is told beside an error.
func isNothing(p api.Parcel) bool { return told(p) == parcelTold{} }

func TestPeekStays(t *testing.T) { // P11.2: as often as it is asked, and can be taken then
	m := some()
	n := m.made(t)
	for range 3 {
		for pick := range 9 {
			does(t, n, m, peek(-1, -1, pick), peek(1, 2, pick), peek(0, 1, pick))
		}
		stands(t, n, m)
	}
	first, _ := n.Peek(1, 2, 1)
	then, e := n.Take(1, 2, 1)
	if told(first) != told(then) || e != api.OK {
		t.Errorf("Peek, Take = %v, %v, %v", first, then, e)
	}
}

func TestTakeInAnyOrder(t *testing.T) { // P11.2, P11.5: each one once
	for seed := range int64(100) {
		mix := rand.New(rand.NewSource(seed))
		m := some()
		m.down = nil
		n := m.made(t)
		for range 9 {
			x := take(-1, -1, mix.Int()-mix.Int())
			if mix.Intn(3) == 0 {
				x.call = "Drop"
			}
			does(t, n, m, x)
			stands(t, n, m)
		}
		for _, call := range []string{"Peek", "Take", "Drop"} {
			answers(t, n, deed{call: call, from: -1, to: -1}, refused(api.ErrNone))
		}
	}
}

func TestEachPlace(t *testing.T) { // P11.2: the first, the last, each between: the others stay as they are, in their order
	for _, call := range []string{"Take", "Drop"} {
		for many := 1; many <= 9; many++ {
			for at := range many {
				m := some()
				m.down, m.on, m.came = nil, m.on[:many], m.on[many-1].number+1
				n := m.made(t)
				does(t, n, m, deed{call: call, from: -1, to: -1, pick: at})
				stands(t, n, m)
				does(t, n, m, put(3, 3, "behind"))
				stands(t, n, m)
			}
		}
	}
}

func TestDown(t *testing.T) { // P11.3, P11.5: this link alone; what is on it stays, is dropped, or is taken once it is up
	m := some()
	m.down, m.most = nil, 20
	n := m.made(t)
	for _, x := range []deed{
		down(0, 1, true), down(0, 1, true), put(0, 1, "no"), take(0, 1, 0), take(0, 1, 2), peek(0, 1, 1), take(-1, -1, 0), peek(-1, -1, 0), take(-1, -1, 1),
		put(1, 0, "the other way"), take(1, 0, 0), drop(0, 1, 1), drop(-1, -1, 0),
		down(2, 2, true), put(2, 2, "no"), take(2, 2, 0), put(2, 1, "beside"), put(1, 2, "beside"),
		down(0, 1, false), take(0, 1, 0), put(0, 1, "yes"), take(2, 2, 0), down(0, 1, false), take(0, 1, -1), take(0, 1, -1),
		down(3, 3, false), down(2, 2, false), take(2, 2, 1), take(2, 2, 1), put(2, 2, "yes"),
	} {
		does(t, n, m, x)
		stands(t, n, m)
	}
}

func TestAllDown(t *testing.T) { // P11.3, P11.5: nothing is taken, all can be dropped
	m := some()
	for from := range 4 {
		for to := range 4 {
			m.doTold(down(from, to, true))
		}
	}
	n := m.made(t)
	for pick := range 9 {
		answers(t, n, take(-1, -1, pick), refused(api.ErrDown))
		answers(t, n, peek(-1, -1, pick), refused(api.ErrDown))
	}
	stands(t, n, m)
	if n.IsDown(-1, -1) || n.IsDown(4, 0) || n.IsDown(0, 4) {
		t.Error("a link is down that is none")
	}
	for _, p := range m.on {
		answers(t, n, drop(p.from, p.to, 0), is(p.number, 0, 0, ""))
	}
	answers(t, n, take(0, 1, 0), refused(api.ErrNone))
}

// wrongs are deeds that are refused, and why, of some().
func wrongs() map[deed]api.Errno {
	long := strings.Repeat("x", 8193)
	all := map[deed]api.Errno{
		put(0, 0, long): api.ErrLong, put(0, 1, long): api.ErrLong, put(3, 0, long): api.ErrLong,
		put(0, 1, "a"): api.ErrDown, put(3, 0, long[1:]): api.ErrDown,
		put(0, 0, "a"): api.ErrCrowd, put(3, 3, long[1:]): api.ErrCrowd, put(1, 2, ""): api.ErrCrowd,
		take(0, 0, 0): api.ErrNone, peek(3, 3, 1): api.ErrNone, drop(2, 1, -1): api.ErrNone, take(3, 0, 0): api.ErrNone, peek(3, 0, 0): api.ErrNone, drop(3, 0, 0): api.ErrNone,
		take(0, 1, 0): api.ErrDown, take(0, 1, 2): api.ErrDown, peek(0, 1, 1): api.ErrDown, take(-1, -1, 0): api.ErrDown, peek(-1, -1, 2): api.ErrDown, take(-1, -1, 8): api.ErrDown,
		put(-1, -1, "a"): api.ErrArg, put(-1, -1, long): api.ErrArg, down(-1, -1, true): api.ErrArg, down(-1, -1, false): api.ErrArg,
	}
	for _, end := range []int{math.MinInt, -1 << 32, -4, -2, -1, 4, 5, 63, 64, 1 << 32, 1<<32 + 1, math.MaxInt} {
		for _, other := range []int{end, 0, 1, 3, -1, 4} {
			for _, x := range []deed{put(end, other, "a"), put(end, other, long), down(end, other, true), down(end, other, false), peek(end, other, 0), take(end, other, 0), drop(end, other, 0)} {
				back := x
				back.from, back.to = x.to, x.from
				if !picks(x) || end != -1 || other != -1 {
					all[x], all[back] = api.ErrArg, api.ErrArg
				}
			}
		}
	}
	return all
}

func TestWhatIsRefused(t *testing.T) { // P11.1 to P11.3: changes nothing, and the answer beside it is zero
	m := some()
	n := m.made(t)
	for x, why := range wrongs() {
		answers(t, n, x, refused(why))
	}
	stands(t, n, m)
	empty := fresh(t, 4, 1)
	for _, call := range []string{"Peek", "Take", "Drop"} {
		answers(t, empty, deed{call: call, from: -1, to: -1}, refused(api.ErrNone))
		answers(t, empty, deed{call: call, from: 0, to: -1}, refused(api.ErrArg))
		answers(t, empty, deed{call: call, from: -1, to: 0}, refused(api.ErrArg))
		answers(t, empty, deed{call: call, from: 3, to: 3}, refused(api.ErrNone))
	}
	stands(t, empty, &netTold{ends: 4, most: 1})
}

func TestCame(t *testing.T) { // P11.1, P11.3: of what is refused none; what is out gives its number to nobody
	n := fresh(t, 1, 2)
	for i := range int64(5000) {
		answers(t, n, put(0, 0, "a"), is(i, 0, 0, ""))
		if n.Came() != i+1 {
			t.Fatalf("Came = %d behind %d", n.Came(), i+1)
		}
		do(n, put(0, 1, "no"))
		if i%2 == 0 {
			answers(t, n, take(0, 0, 0), is(i, 0, 0, "a"))
		} else {
			answers(t, n, drop(0, 0, 0), is(i, 0, 0, ""))
		}
	}
}

func TestAsking(t *testing.T) { // P11.3, P11.4: changes nothing, and is answered alike each time
	m := some()
	n := m.made(t)
	for range 10 {
		stands(t, n, m)
		n.Copy()
	}
}

func TestAllAsItIsCalled(t *testing.T) { // P11.3: not as it is gone over
	m := some()
	n := m.made(t)
	all := n.All()
	does(t, n, m.copied(), take(1, 2, 0), drop(0, 1, 0), put(3, 3, "more"), down(0, 1, false), take(0, 1, 0), put(1, 2, "more"), drop(-1, -1, 3))
	for range 2 {
		var seen []parcelTold
		for p := range all {
			seen = append(seen, told(p))
		}
		if !slices.Equal(seen, m.on) {
			t.Fatalf("All = %v, not %v", seen, m.on)
		}
	}
	nothing := fresh(t, 1, 1)
	none := nothing.All()
	answers(t, nothing, put(0, 0, "a"), got{})
	for p := range none {
		t.Error("All of nothing tells", p)
	}
}

func TestAllWhileItChanges(t *testing.T) { // P11.3: also by what is done with what is told
	m := some()
	n := m.made(t)
	var seen []parcelTold
	for p := range n.All() {
		seen = append(seen, told(p))
		p.Bytes = append(p.Bytes[:0], "another"...)
		n.Drop(p.From, p.To, 0)
		n.Put(2, 3, []byte("more"))
	}
	if !slices.Equal(seen, m.on) {
		t.Fatalf("All = %v, not %v", seen, m.on)
	}
	if n.Len(2, 3) != 9 || n.Len(-1, -1) != 9 {
		t.Errorf("Len = %d, %d", n.Len(2, 3), n.Len(-1, -1))
	}
}

func TestAllIsLeft(t *testing.T) { // P11.3: at any time, and gone over again, also within itself
	m := some()
	n := m.made(t)
	all := n.All()
	for most := range len(m.on) + 1 {
		var seen []parcelTold
		for p := range all {
			if len(seen) == most {
				break
			}
			seen = append(seen, told(p))
		}
		if !slices.Equal(seen, m.on[:most]) {
			t.Fatalf("the first %d = %v", most, seen)
		}
	}
	many := 0
	for range all {
		for p := range all {
			if told(p) != m.on[many%len(m.on)] {
				t.Fatalf("the message %d = %v", many, p)
			}
			many++
		}
	}
	if many != len(m.on)*len(m.on) {
		t.Fatalf("it told %d messages", many)
	}
	stands(t, n, m)
}

func TestBytesThatAreHandedIn(t *testing.T) { // P11.1: are not changed, spare room included, and not kept
	n := fresh(t, 1, 10)
	was := "hi, and spare room"
	b := []byte(was)
	for _, many := range []int{2, len(was), 0} {
		if _, e := n.Put(0, 0, b[:many]); e != api.OK {
			t.Fatal(e)
		}
		do(n.Copy(), take(0, 0, 0))
		if string(b) != was {
			t.Fatalf("what was handed in is %q", b)
		}
	}
	clear(b)
	stands(t, n, &netTold{ends: 1, most: 10, came: 3, on: []parcelTold{{0, 0, 0, "hi"}, {1, 0, 0, was}, {2, 0, 0, ""}}})
}

// spoil changes an answer, its spare room too.
func spoil(p api.Parcel) {
	b := p.Bytes[:cap(p.Bytes)]
	for i := range b {
		b[i] ^= 0x55
	}
}

func TestAnswersAreNew(t *testing.T) { // P11.2 to P11.4: who changes an answer changes nothing else
	m := some()
	n := m.made(t)
	then := n.All()
	c := n.Copy()
	for p := range n.All() {
		spoil(p)
	}
	for p := range then {
		spoil(p)
	}
	stands(t, n, m)
	stands(t, c, m)
	one, _ := n.Peek(1, 2, 0)
	other, _ := n.Peek(1, 2, 0)
	spoil(one)
	if told(other) != m.on[1] {
		t.Errorf("an answer has become %v", other)
	}
	spoil(other)
	stands(t, n, m)
	first, _ := n.Take(1, 2, 0)
	spoil(first)
	for p := range then {
		spoil(p)
	}
	stands(t, c, m)
	second, _ := c.Take(1, 2, 0)
	if told(second) != m.on[1] {
		t.Errorf("Take = %v", second)
	}
	spoil(second)
	var seen []parcelTold
	for p := range then {
		seen = append(seen, told(p))
	}
	if !slices.Equal(seen, m.on) {
		t.Errorf("All = %v", seen)
	}
	left := m.copied()
	left.on = slices.Delete(left.on, 1, 2)
	stands(t, n, left)
	stands(t, c, left)
}

func TestAnswersStay(t *testing.T) { // P11.2: whatever is done behind them
	n := fresh(t, 1, 3)
	for _, b := range []string{"one", "two", "six"} {
		do(n, put(0, 0, b))
	}
	peeked, _ := n.Peek(0, 0, 0)
	taken, _ := n.Take(0, 0, 0)
	for i := range 100 {
		do(n, put(0, 0, strings.Repeat("z", i)))
		do(n, take(0, 0, i))
	}
	if !bytes.Equal(peeked.Bytes, []byte("one")) || !bytes.Equal(taken.Bytes, []byte("one")) {
		t.Errorf("answers have become %v, %v", peeked, taken)
	}
}

func TestCopy(t *testing.T) { // P11.4: the same, and each goes on apart
	for _, told := range []*netTold{{ends: 4, most: 1}, {ends: 4, most: 5, came: 3}, {ends: 64, most: 4096, came: 1, on: []parcelTold{{0, 63, 63, "a"}}}, some()} {
		m, o := told.copied(), told.copied()
		n := m.made(t)
		c := n.Copy()
		if c == n || !net.Same(n, c) {
			t.Fatal("a copy is not another one of the same")
		}
		stands(t, c, o)
		for i, x := range []deed{drop(-1, -1, 0), put(3, 3, "only here"), down(2, 1, true), down(0, 1, false), take(-1, -1, -1), put(1, 2, "only here")} {
			does(t, n, m, x)
			stands(t, n, m)
			stands(t, c, o)
			if i > 0 && net.Same(n, c) {
				t.Fatalf("behind %d deeds, they are still the same", i+1)
			}
		}
		then := m.copied()
		for _, x := range []deed{put(2, 2, "only there"), drop(-1, -1, 0), down(3, 0, true), down(1, 1, true), take(-1, -1, 1), put(0, 2, "only there")} {
			does(t, c, o, x)
			stands(t, c, o)
			stands(t, n, then)
		}
	}
}

func TestCopiesPutApart(t *testing.T) { // P11.4: also where there was spare room behind the messages
	m := &netTold{ends: 2, most: 100}
	n := m.made(t)
	for range 40 {
		does(t, n, m, put(0, 0, "both"))
		c, o := n.Copy(), m.copied()
		does(t, n, m, put(0, 1, "here"))
		does(t, c, o, put(1, 0, "there"))
		stands(t, n, m)
		stands(t, c, o)
	}
}

func TestSame(t *testing.T) { // P11.4: each thing that is another one counts
	base := func() *netTold {
		m := some()
		m.most, m.on[8].bytes = 20, "short"
		return m
	}
	others := map[string]func(m *netTold){
		"one end more":           func(m *netTold) { m.ends++ },
		"another bound":          func(m *netTold) { m.most++ },
		"one number more":        func(m *netTold) { m.came++ },
		"a link more is down":    func(m *netTold) { m.down = append(m.down, [2]int{1, 0}) },
		"a link less is down":    func(m *netTold) { m.down = m.down[:1] },
		"the other one is down":  func(m *netTold) { m.down = m.down[1:] },
		"none is down":           func(m *netTold) { m.down = nil },
		"another one is down":    func(m *netTold) { m.down[0] = [2]int{1, 0} },
		"one less":               func(m *netTold) { m.on = m.on[:8] },
		"the first one less":     func(m *netTold) { m.on = m.on[1:] },
		"none":                   func(m *netTold) { m.on = nil },
		"one more":               func(m *netTold) { m.on = slices.Insert(m.on, 2, parcelTold{2, 0, 0, ""}) },
		"another number":         func(m *netTold) { m.on[2].number-- },
		"another From":           func(m *netTold) { m.on[4].from = 1 },
		"another To":             func(m *netTold) { m.on[4].to = 1 },
		"the other way":          func(m *netTold) { m.on[1].from, m.on[1].to = 2, 1 },
		"another byte":           func(m *netTold) { m.on[4].bytes = "the sama" },
		"a byte more":            func(m *netTold) { m.on[3].bytes = "\x00" },
		"a byte less":            func(m *netTold) { m.on[4].bytes = "the sam" },
		"messages, changed over": func(m *netTold) { m.on[4].number, m.on[6].number = 9, 7; m.on[4], m.on[6] = m.on[6], m.on[4] },
		"bytes, changed over":    func(m *netTold) { m.on[0].bytes, m.on[2].bytes = "c", "a" },
	}
	n := base().made(t)
	if o := base().made(t); !net.Same(o, n) || !net.Same(n, n) {
		t.Error("what is the same is not")
	}
	for what, change := range others {
		m := base()
		change(m)
		o := m.made(t)
		if net.Same(o, n) || net.Same(n, o) || !net.Same(o, o.Copy()) {
			t.Errorf("%s is not told", what)
		}
	}
}

func TestSameByOtherWays(t *testing.T) { // P11.4: however it came to stand so
	v, w := fresh(t, 2, 5), fresh(t, 2, 5)
	for _, x := range []deed{put(0, 0, "a"), put(0, 1, "b"), put(1, 0, "c"), take(0, 0, 0), down(0, 1, true), down(1, 1, true), down(1, 1, false)} {
		do(v, x)
	}
	for _, x := range []deed{down(0, 1, true), down(0, 1, false), put(1, 1, "x"), drop(-1, -1, 0), put(0, 1, "b"), put(1, 0, "c"), down(1, 0, true), down(1, 0, false)} {
		do(w, x)
	}
	if net.Same(v, w) {
		t.Error("the same, though one link is down")
	}
	do(w, down(0, 1, true))
	if !net.Same(v, w) || !net.Same(w, v) {
		t.Error("not the same")
	}
	for _, x := range []deed{drop(0, 1, 0), drop(1, 0, 0), down(0, 1, false)} {
		do(v, x)
		do(w, x)
	}
	if !net.Same(v, w) || !net.Same(w, v) || net.Same(v, fresh(t, 2, 5)) {
		t.Error("of those with nothing on its way")
	}
}

func TestNone(t *testing.T) { // P11.1 to P11.4: a net that is not there
	there := fresh(t, 1, 1)
	for i, n := range nones() {
		for x := range wrongs() {
			answers(t, n, x, refused(api.ErrNil))
		}
		for _, x := range []deed{put(0, 0, "a"), peek(0, 0, 0), take(0, 0, 0), drop(0, 0, 0), take(-1, -1, 0), peek(-1, -1, 0), drop(-1, -1, 0), down(0, 0, true), down(0, 0, false)} {
			answers(t, n, x, refused(api.ErrNil))
		}
		shows(t, n, &netTold{})
		if n.All() == nil {
			t.Errorf("%d: there is no iterator", i)
		}
		if n.Copy() != nil {
			t.Errorf("%d: there is a copy", i)
		}
		for _, o := range nones() {
			if !net.Same(o, n) {
				t.Errorf("%d is not like another one that is not there", i)
			}
		}
		if net.Same(n, there) || net.Same(there, n) {
			t.Errorf("%d is like one that is there", i)
		}
	}
}

// held is how many bytes are held in memory.
func held() int64 {
	runtime.GC()
	runtime.GC()
	var s runtime.MemStats
	runtime.ReadMemStats(&s)
	return int64(s.HeapAlloc)
}

func TestWhatIsOutIsNotHeld(t *testing.T) { // P11.2: nor is what was handed in, but for its bytes
	const many = 4096
	n := fresh(t, 1, many)
	ahead := held()
	holds := func() {
		t.Helper()
		if more := held() - ahead; more > many*1024 {
			t.Errorf("%d bytes are held of %d messages", more, n.Len(0, 0))
		}
	}
	for range many {
		answers(t, n, put(0, 0, strings.Repeat("x", 8192)), is(n.Came(), 0, 0, ""))
	}
	for range many / 2 {
		do(n, take(0, 0, -1))
		do(n, drop(0, 0, 0))
	}
	holds()
	for range many {
		if _, e := n.Put(0, 0, make([]byte, 1, 8192)); e != api.OK {
			t.Fatal(e)
		}
	}
	holds()
	runtime.KeepAlive(n)
}

// anyDeed is mostly one that goes: on few links.
func anyDeed(mix *rand.Rand, ends int) deed {
	odd := []int{-1, ends, -2, math.MaxInt, math.MinInt, 64}
	x := deed{from: mix.Intn(min(3, ends)), to: mix.Intn(min(3, ends)), pick: mix.Intn(20) - 9, is: mix.Intn(3) == 0}
	if mix.Intn(4) == 0 {
		x.pick = mix.Int() - mix.Int()
	}
	x.call = []string{"Put", "Put", "Put", "Put", "Peek", "Take", "Take", "Drop", "Down"}[mix.Intn(9)]
	if x.call == "Put" {
		x.pick, x.bytes = 0, number(mix.Int63n(1<<uint(mix.Intn(60))))
	}
	if picks(x) && mix.Intn(3) == 0 {
		x.from, x.to = -1, -1
	}
	if mix.Intn(20) == 0 {
		x.from = odd[mix.Intn(len(odd))]
	}
	if mix.Intn(20) == 0 {
		x.to = odd[mix.Intn(len(odd))]
	}
	if mix.Intn(40) == 0 {
		x.bytes = strings.Repeat("b", 8190+mix.Intn(5))
	}
	return x
}

func TestWalks(t *testing.T) { // P11.1 to P11.4: whatever is done, in whatever order
	for seed := range int64(60) {
		mix := rand.New(rand.NewSource(seed))
		m := &netTold{ends: 1 + mix.Intn(5), most: 1 + mix.Intn(12)}
		n := m.made(t)
		for range 200 {
			if mix.Intn(10) == 0 {
				n = n.Copy()
			}
			before, all := n.Copy(), n.All()
			x := anyDeed(mix, m.ends)
			then := m.copied()
			does(t, n, m, x)
			stands(t, n, m)
			shows(t, before, then)
			var seen []parcelTold
			for p := range all {
				seen = append(seen, told(p))
			}
			if !slices.Equal(seen, then.on) {
				t.Fatalf("All = %v, not %v", seen, then.on)
			}
		}
	}
}

func TestWhatIsTakenWasPut(t *testing.T) { // P11.5: each number once, nothing over a link that is down
	for seed := range int64(40) {
		mix := rand.New(rand.NewSource(seed))
		n := fresh(t, 3, 1+mix.Intn(40))
		were := map[int64]parcelTold{}
		out := map[int64]struct{}{}
		for range 2000 {
			x := anyDeed(mix, 3)
			g := do(n, x)
			if g.e != api.OK {
				continue
			}
			switch x.call {
			case "Put":
				if _, is := were[g.number]; is || g.number != int64(len(were)) {
					t.Fatalf("the number %d is given behind %d", g.number, len(were))
				}
				were[g.number] = parcelTold{g.number, x.from, x.to, x.bytes}
				continue
			case "Down":
				continue
			case "Peek", "Take":
				if g.parcelTold != were[g.number] || n.IsDown(g.from, g.to) {
					t.Fatalf("%s = %s", x.shown(), g.shown())
				}
			}
			if _, is := out[g.number]; is {
				t.Fatalf("%s = %s, which is out", x.shown(), g.shown())
			}
			if x.call != "Peek" {
				out[g.number] = struct{}{}
			}
		}
		if n.Came() != int64(len(were)) || n.Len(-1, -1) != len(were)-len(out) {
			t.Fatalf("Came, Len = %d, %d of %d put, %d out", n.Came(), n.Len(-1, -1), len(were), len(out))
		}
		for p := range n.All() {
			if _, is := out[p.Number]; is || told(p) != were[p.Number] {
				t.Fatalf("%v is on its way", p)
			}
		}
	}
}

func FuzzNet(f *testing.F) { // P11.1 to P11.5: whatever is done: what the document tells
	f.Add(3, 10, []byte{0, 0, 1, 97, 0, 1, 2, 98, 0, 0, 1, 99, 2, 0, 1, 1, 2, 255, 255, 1})
	f.Add(2, 1, []byte{0, 0, 1, 97, 4, 0, 1, 1, 2, 0, 1, 0, 0, 0, 1, 4, 3, 0, 1, 7, 0, 2, 0, 1})
	f.Fuzz(func(t *testing.T, ends, most int, b []byte) {
		if n, e := net.New(ends, most); ends < 1 || ends > 64 || most < 1 || most > 4096 {
			if n != nil || e != api.ErrArg {
				t.Fatalf("New(%d, %d) = %v, %v", ends, most, n, e)
			}
			return
		}
		m := &netTold{ends: ends, most: most}
		n := m.made(t)
		for ; len(b) >= 4; b = b[4:] {
			x := deed{call: []string{"Put", "Peek", "Take", "Drop", "Down"}[b[0]%5], from: int(int8(b[1])), to: int(int8(b[2])), pick: int(int8(b[3])) << (b[0] / 5)}
			switch x.call {
			case "Put":
				x.bytes = strings.Repeat("b", 33*int(b[3]))
			case "Down":
				x.is = b[3]%2 == 1
			}
			does(t, n, m, x)
		}
		stands(t, n, m)
	})
}
