package wheel_test

import (
	"math"
	"math/rand"
	"slices"
	"sort"
	"testing"

	"antiphon/api"
	"antiphon/wheel"
)

const lastTick int64 = 1 << 62

// wheelTold is a wheel as the document tells it: what is set is in no order.
type wheelTold struct {
	now int64
	set []api.Due
}

func (m *wheelTold) copied() *wheelTold { return &wheelTold{m.now, slices.Clone(m.set)} }

func (m *wheelTold) find(id int64) int {
	return slices.IndexFunc(m.set, func(d api.Due) bool { return d.ID == id })
}

// sorted is what is set, in the order in which it is due.
func (m *wheelTold) sorted() []api.Due {
	all := slices.Clone(m.set)
	sort.Slice(all, func(i, j int) bool {
		if all[i].At != all[j].At {
			return all[i].At < all[j].At
		}
		return all[i].ID < all[j].ID
	})
	return all
}

// deed is a call that may change a wheel.
type deed struct {
	call  string
	id, n int64
}

// got is what such a call answers.
type got struct {
	tick int64
	due  []api.Due
	e    api.Errno
}

func (g got) same(h got) bool {
	return g.tick == h.tick && slices.Equal(g.due, h.due) && g.e == h.e
}

// refusedTold tells why a deed is none.
func (m *wheelTold) refusedTold(x deed) api.Errno {
	if x.call != "Advance" && (x.id < 0 || x.id > 2147483647) {
		return api.ErrArg
	}
	if x.call == "Set" && x.n < 1 || x.call == "Advance" && x.n < 0 || x.call != "Cancel" && x.n > 2147483647 {
		return api.ErrArg
	}
	if x.call == "Set" && m.find(x.id) < 0 && len(m.set) == 4096 {
		return api.ErrLong
	}
	if x.call != "Cancel" && m.now+x.n > lastTick {
		return api.ErrLong
	}
	if x.call == "Cancel" && m.find(x.id) < 0 {
		return api.ErrNone
	}
	return api.OK
}

// doTold does a deed as the document tells it.
func (m *wheelTold) doTold(x deed) got {
	if e := m.refusedTold(x); e != api.OK {
		return got{e: e}
	}
	switch x.call {
	case "Set":
		d := api.Due{At: m.now + x.n, ID: x.id}
		if at := m.find(x.id); at >= 0 {
			m.set[at] = d
		} else {
			m.set = append(m.set, d)
		}
		return got{tick: d.At}
	case "Cancel":
		at := m.find(x.id)
		m.set = slices.Delete(m.set, at, at+1)
		return got{}
	}
	m.now += x.n
	g := got{}
	for _, d := range m.sorted() {
		if d.At <= m.now {
			g.due = append(g.due, d)
		}
	}
	m.set = slices.DeleteFunc(m.set, func(d api.Due) bool { return d.At <= m.now })
	return g
}

// do does a deed.
func do(w *wheel.Wheel, x deed) got {
	var g got
	switch x.call {
	case "Set":
		g.tick, g.e = w.Set(x.id, x.n)
	case "Cancel":
		g.e = w.Cancel(x.id)
	default:
		g.due, g.e = w.Advance(x.n)
	}
	return g
}

// made is a wheel that stands as is told, made by as few calls as may be.
func (m *wheelTold) made(t *testing.T) *wheel.Wheel {
	t.Helper()
	w := wheel.New()
	w.Late(m.now)
	for _, d := range m.set {
		sets(t, w, d.ID, d.At-m.now)
	}
	return w
}

func sets(t *testing.T, w *wheel.Wheel, id, after int64) {
	t.Helper()
	if at, e := w.Set(id, after); at != w.Now()+after || e != api.OK {
		t.Fatalf("Set(%d, %d) = %d, %v at %d", id, after, at, e, w.Now())
	}
}

// passes lets ticks go by, and asks what is due.
func passes(t *testing.T, w *wheel.Wheel, n int64, want ...api.Due) {
	t.Helper()
	if due, e := w.Advance(n); !slices.Equal(due, want) || e != api.OK {
		t.Fatalf("Advance(%d) = %v, %v, not %v", n, due, e, want)
	}
}

// shows asks whether what can be seen of a wheel is what is told of it, also of some things that are not set.
func shows(t *testing.T, w *wheel.Wheel, m *wheelTold) {
	t.Helper()
	all := m.sorted()
	if got := slices.Collect(w.All()); !slices.Equal(got, all) {
		t.Fatalf("All = %v, not %v", got, all)
	}
	if w.Now() != m.now || w.Len() != len(all) {
		t.Fatalf("Now, Len = %d, %d, not %d, %d", w.Now(), w.Len(), m.now, len(all))
	}
	var first api.Due
	if len(all) > 0 {
		first = all[0]
	}
	if d, is := w.Next(); d != first || is != (len(all) > 0) {
		t.Fatalf("Next = %v, %v, not %v", d, is, first)
	}
	for _, d := range all {
		if at, is := w.At(d.ID); at != d.At || !is {
			t.Fatalf("At(%d) = %d, %v, not %d", d.ID, at, is, d.At)
		}
	}
	for _, id := range []int64{math.MinInt64, -1, 0, 1, 12, 64, 4096, api.MaxNumber, api.MaxNumber + 1, 1 << 32, math.MaxInt64} {
		if at, is := w.At(id); m.find(id) < 0 && (at != 0 || is) {
			t.Fatalf("At(%d) = %d, %v, though it is not set", id, at, is)
		}
	}
}

// stands asks whether a wheel is as is told.
func stands(t *testing.T, w *wheel.Wheel, m *wheelTold) {
	t.Helper()
	shows(t, w, m)
	if other := m.made(t); !wheel.Same(w, other) || !wheel.Same(other, w) {
		t.Fatalf("it does not stand as is told: %v", m)
	}
}

// does asks whether a deed does and answers what is told of it.
func does(t *testing.T, w *wheel.Wheel, m *wheelTold, x deed) {
	t.Helper()
	want := m.doTold(x)
	if g := do(w, x); !g.same(want) {
		t.Fatalf("%+v at %d = %+v, not %+v", x, m.now, g, want)
	}
}

// drains lets so many ticks go by, all that is set being due by then, in order.
func drains(t *testing.T, w *wheel.Wheel, m *wheelTold, n int64) {
	t.Helper()
	does(t, w, m, deed{call: "Advance", n: n})
	if len(m.set) > 0 {
		t.Fatalf("%d are not due", len(m.set))
	}
	stands(t, w, m)
}

// nones are wheels that are not there.
func nones() []*wheel.Wheel {
	var nobody *wheel.Wheel
	return []*wheel.Wheel{nil, {}, new(wheel.Wheel), nobody.Copy(), new(wheel.Wheel).Copy()}
}

// some is things at now, by how many ticks later they are due: near ones, such that stand alike by their lowest bits, far ones.
func some(now int64) *wheelTold {
	m := &wheelTold{now: now}
	for i, after := range []int64{5, 1, 64, 65, 128, 129, 1, 63, 4096, 1 << 20, 1<<20 + 64, api.MaxNumber, api.MaxNumber - 1, 5, 2} {
		m.set = append(m.set, api.Due{At: now + after, ID: int64(100 - 7*i)})
	}
	m.set = append(m.set, api.Due{At: now + 64, ID: 0}, api.Due{At: now + 65, ID: api.MaxNumber})
	for i, d := range m.set {
		if d.ID < 0 {
			m.set[i].ID = -d.ID
		}
	}
	return m
}

// wrongs are deeds that are refused, and why, of a wheel on which 12 is not set.
func wrongs() map[deed]api.Errno {
	all := map[deed]api.Errno{{"Cancel", 12, 0}: api.ErrNone}
	for _, id := range []int64{math.MinInt64, -1 << 32, -1, api.MaxNumber + 1, 1 << 32, 1<<32 + 3, math.MaxInt64} {
		all[deed{"Set", id, 5}] = api.ErrArg
		all[deed{"Set", id, 0}] = api.ErrArg
		all[deed{"Cancel", id, 0}] = api.ErrArg
	}
	for _, n := range []int64{math.MinInt64, -1 << 32, -1, 0, api.MaxNumber + 1, 1 << 32, 1<<32 + 3, lastTick, math.MaxInt64} {
		all[deed{"Set", 12, n}] = api.ErrArg
		all[deed{"Set", 100, n}] = api.ErrArg
		if n != 0 {
			all[deed{"Advance", 0, n}] = api.ErrArg
		}
	}
	return all
}

func TestExamples(t *testing.T) { // P10.1, P10.2
	w := wheel.New()
	sets(t, w, 7, 5)
	sets(t, w, 3, 5)
	sets(t, w, 9, 2)
	if d, is := w.Next(); d != (api.Due{At: 2, ID: 9}) || !is {
		t.Error(d, is)
	}
	if at, e := w.Set(9, 6); at != 6 || e != api.OK {
		t.Error(at, e)
	}
	passes(t, w, 5, api.Due{At: 5, ID: 3}, api.Due{At: 5, ID: 7})
	if w.Now() != 5 || w.Len() != 1 {
		t.Error(w.Now(), w.Len())
	}
	if e := w.Cancel(3); e != api.ErrNone {
		t.Error(e)
	}
	if e := w.Cancel(9); e != api.OK {
		t.Error(e)
	}
	if due, e := w.Advance(-1); len(due) != 0 || e != api.ErrArg {
		t.Error(due, e)
	}
}

func TestNew(t *testing.T) { // P10.1: a wheel of its own, at 0, with nothing set
	v, w := wheel.New(), wheel.New()
	stands(t, w, &wheelTold{})
	sets(t, v, 1, 1)
	passes(t, v, 3, api.Due{At: 1, ID: 1})
	stands(t, w, &wheelTold{})
}

func TestSet(t *testing.T) { // P10.1: at the edges of IDs and of ticks, at any time
	for _, now := range []int64{0, 1, 63, 64, 1000, 1 << 40} {
		for _, id := range []int64{0, 1, 63, 64, 65, 1 << 20, api.MaxNumber - 1, api.MaxNumber} {
			for _, after := range []int64{1, 2, 63, 64, 65, 128, 1 << 20, api.MaxNumber - 1, api.MaxNumber} {
				m := &wheelTold{now: now}
				w := m.made(t)
				does(t, w, m, deed{"Set", id, after})
				stands(t, w, m)
				if after > 1 {
					passes(t, w, after-1)
				}
				passes(t, w, 1, api.Due{At: now + after, ID: id})
				stands(t, w, &wheelTold{now: now + after})
			}
		}
	}
}

func TestSetAnew(t *testing.T) { // P10.1, P10.4: sooner, later, at the same tick, a round apart: due once, as was said last
	for _, elder := range []int64{1, 5, 64, 69, 133, 1 << 20} {
		for _, newer := range []int64{1, 4, 5, 6, 64, 69, 70, 133, 1 << 20, api.MaxNumber} {
			m := &wheelTold{set: []api.Due{{At: 5, ID: 1}, {At: 69, ID: 2}}}
			w := m.made(t)
			does(t, w, m, deed{"Set", 9, elder})
			does(t, w, m, deed{"Set", 9, newer})
			stands(t, w, m)
			if w.Len() != 3 {
				t.Fatalf("%d are set", w.Len())
			}
			drains(t, w, m, api.MaxNumber)
		}
	}
}

func TestSetAnewLater(t *testing.T) { // P10.1: the ticks are those from now on
	m := &wheelTold{}
	w := m.made(t)
	for range 200 {
		does(t, w, m, deed{"Set", 4, 5})
		does(t, w, m, deed{call: "Advance", n: 4})
		stands(t, w, m)
	}
	passes(t, w, 1, api.Due{At: 801, ID: 4})
	passes(t, w, 1000)
	sets(t, w, 4, 1)
}

func TestCancel(t *testing.T) { // P10.1, P10.4: it is not due then; all others are
	all := some(7)
	for _, d := range all.set {
		m := all.copied()
		w := m.made(t)
		does(t, w, m, deed{call: "Cancel", id: d.ID})
		stands(t, w, m)
		does(t, w, m, deed{call: "Cancel", id: d.ID})
		stands(t, w, m)
		drains(t, w, m, api.MaxNumber)
	}
	m := all.copied()
	w := m.made(t)
	for _, d := range all.set {
		does(t, w, m, deed{call: "Cancel", id: d.ID})
		stands(t, w, m)
	}
	passes(t, w, api.MaxNumber)
}

func TestCancelOfWhatWasDue(t *testing.T) { // P10.1: it is set no more
	w := wheel.New()
	sets(t, w, 1, 3)
	sets(t, w, 2, 4)
	passes(t, w, 3, api.Due{At: 3, ID: 1})
	if e := w.Cancel(1); e != api.ErrNone {
		t.Error(e)
	}
	if e := w.Cancel(2); e != api.OK {
		t.Error(e)
	}
	sets(t, w, 1, 1)
	passes(t, w, 9, api.Due{At: 4, ID: 1})
}

func TestAdvance(t *testing.T) { // P10.1: in order, by ticks, of one tick by IDs, however far, from whenever
	for _, now := range []int64{0, 1, 62, 63, 64, 100, 1<<31 - 5, 1 << 50} {
		for _, n := range []int64{0, 1, 2, 4, 5, 6, 62, 63, 64, 65, 66, 127, 128, 129, 130, 4095, 4096, 1<<20 - 1, 1 << 20, 1<<20 + 64, api.MaxNumber - 2, api.MaxNumber - 1, api.MaxNumber} {
			m := some(now)
			w := m.made(t)
			does(t, w, m, deed{call: "Advance", n: n})
			stands(t, w, m)
			drains(t, w, m, api.MaxNumber)
		}
	}
}

func TestAdvanceByNothing(t *testing.T) { // P10.1: nothing is due, nothing changes
	m := some(3)
	w := m.made(t)
	for range 3 {
		passes(t, w, 0)
		stands(t, w, m)
	}
}

func TestEachTick(t *testing.T) { // P10.1, P10.4: what is set is due at its tick, not ahead of it, not a round behind
	for _, now := range []int64{0, 60, 64, 1000} {
		m := &wheelTold{now: now}
		w := m.made(t)
		for i := range int64(300) {
			does(t, w, m, deed{"Set", 1000 - i, 1 + (i*7)%150})
		}
		for range 151 {
			does(t, w, m, deed{call: "Advance", n: 1})
			shows(t, w, m)
		}
		if w.Len() != 0 {
			t.Fatalf("%d are not due", w.Len())
		}
	}
}

func TestOneTick(t *testing.T) { // P10.1: as many as may be, due at one tick, by their IDs
	m := &wheelTold{now: 10}
	w := m.made(t)
	for i := range int64(api.MaxSet) {
		does(t, w, m, deed{"Set", (i * 1237) % 4099, 77})
	}
	passes(t, w, 76)
	m.now += 76
	drains(t, w, m, 1)
}

func TestMaxSet(t *testing.T) { // P10.1: as many go; one more does not, but one that is set already goes anew
	m := &wheelTold{now: 5}
	w := m.made(t)
	for i := range int64(api.MaxSet) {
		does(t, w, m, deed{"Set", 3 * i, 1 + (i*i)%1000})
	}
	stands(t, w, m)
	if at, e := w.Set(1, 1); at != 0 || e != api.ErrLong {
		t.Errorf("one more: %d, %v", at, e)
	}
	for _, x := range []deed{{"Set", 1, 1}, {"Set", api.MaxNumber, api.MaxNumber}, {"Set", -1, 1}, {"Set", 1, 0}, {"Set", 3, 0}, {"Set", 3, 2000}, {"Set", 0, 1}, {"Set", 1, 1}, {"Cancel", 1, 0}} {
		does(t, w, m, x)
		stands(t, w, m)
	}
	if w.Len() != api.MaxSet {
		t.Fatalf("%d are set", w.Len())
	}
	for _, x := range []deed{{"Cancel", 6, 0}, {"Set", 1, 1}, {"Set", 2, 1}, {"Advance", 0, 1}, {"Set", 2, 9}} { // what is let go makes room
		does(t, w, m, x)
		stands(t, w, m)
	}
	drains(t, w, m, 2000)
}

func TestWhatIsRefused(t *testing.T) { // P10.1: changes nothing
	for _, m := range []*wheelTold{{}, {now: 9}, some(0), some(1 << 33)} {
		w := m.made(t)
		for x, why := range wrongs() {
			if g := do(w, x); !g.same(got{e: why}) {
				t.Errorf("%+v = %+v, not %v", x, g, why)
			}
			stands(t, w, m)
		}
	}
}

func TestLastTick(t *testing.T) { // P10.1: up to 2^62
	m := &wheelTold{now: lastTick - 70}
	w := m.made(t)
	for _, x := range []deed{
		{"Set", 1, 70}, {"Set", 2, 71}, {"Set", 1, 71}, {"Set", 3, api.MaxNumber}, {"Set", 4, 6}, {"Set", 5, 1}, {"Set", 6, 69},
		{"Set", -1, 71}, {"Set", 2, 0}, {"Set", 2, api.MaxNumber + 1}, // what may not be comes first
		{"Advance", 0, 71}, {"Advance", 0, api.MaxNumber}, {"Advance", 0, api.MaxNumber + 1}, {"Advance", 0, -1},
		{"Advance", 0, 6}, {"Set", 7, 65}, {"Set", 7, 64}, {"Advance", 0, 65}, {"Advance", 0, 63}, {"Cancel", 7, 0}, {"Set", 7, 1},
		{"Advance", 0, 2}, {"Advance", 0, 1}, {"Set", 8, 1}, {"Advance", 0, 1}, {"Advance", 0, 0}, {"Cancel", 8, 0},
	} {
		does(t, w, m, x)
		stands(t, w, m)
	}
	if w.Now() != 4611686018427387904 || w.Len() != 0 {
		t.Error(w.Now(), w.Len())
	}
}

func TestLastTickOfAFullOne(t *testing.T) { // P10.1
	m := &wheelTold{now: lastTick - 3}
	w := m.made(t)
	for i := range int64(api.MaxSet) {
		does(t, w, m, deed{"Set", i, 1 + i%3})
	}
	for _, x := range []deed{{"Set", 4096, 3}, {"Set", 4096, 4}, {"Set", 0, 4}, {"Set", 0, 3}, {"Advance", 0, 4}, {"Advance", 0, 3}} {
		does(t, w, m, x)
	}
	stands(t, w, m)
}

func TestFarTime(t *testing.T) { // P10.1: however far ticks go by, the call ends soon; so the time comes to what no 32 bits tell
	w := wheel.New()
	for i := range int64(20000) {
		sets(t, w, i, api.MaxNumber)
		passes(t, w, api.MaxNumber, api.Due{At: (i + 1) * api.MaxNumber, ID: i})
	}
	if w.Now() != 20000*2147483647 {
		t.Error(w.Now())
	}
}

func TestNext(t *testing.T) { // P10.2: whatever else is set: nearer by its lowest bits, at the same tick, a round later
	afters := []int64{1, 2, 3, 62, 63, 64, 65, 66, 126, 127, 128, 129, 130, 192, 1 << 20, api.MaxNumber}
	for _, now := range []int64{0, 1, 63, 64, 1 << 40} {
		for _, a := range afters {
			for _, b := range afters {
				for _, c := range afters {
					m := &wheelTold{now: now, set: []api.Due{{At: now + a, ID: 2}, {At: now + b, ID: 1}, {At: now + c, ID: 3}}}
					d, is := m.made(t).Next()
					if d != m.sorted()[0] || !is {
						t.Fatalf("at %d of %v Next = %v, %v", now, m.set, d, is)
					}
				}
			}
		}
	}
}

func TestNextOneByOne(t *testing.T) { // P10.2: what Next tells is what comes
	m := some(50)
	w := m.made(t)
	for range m.set {
		next, _ := w.Next()
		passes(t, w, next.At-w.Now()-1)
		if d, is := w.Next(); d != next || !is {
			t.Fatalf("Next = %v, %v, not %v", d, is, next)
		}
		if e := w.Cancel(next.ID); e != api.OK {
			t.Fatalf("Cancel(%d) = %v", next.ID, e)
		}
	}
	if d, is := w.Next(); d != (api.Due{}) || is {
		t.Errorf("Next = %v, %v of nothing", d, is)
	}
}

func TestAsking(t *testing.T) { // P10.2, P10.3: changes nothing, and is answered alike each time
	m := some(12)
	w := m.made(t)
	for range 20 {
		stands(t, w, m)
		w.Copy()
	}
}

func TestAllAsItIsCalled(t *testing.T) { // P10.2: not as it is gone over
	m := some(12)
	w := m.made(t)
	then := m.sorted()
	all := w.All()
	w.Set(500, 1)
	w.Set(100, 9)
	w.Cancel(0)
	w.Advance(70)
	for range 2 {
		if got := slices.Collect(all); !slices.Equal(got, then) {
			t.Fatalf("All = %v, not %v", got, then)
		}
	}
	nothing := wheel.New()
	none := nothing.All()
	nothing.Set(1, 1)
	for d := range none {
		t.Error("All of nothing tells", d)
	}
}

func TestAllWhileItChanges(t *testing.T) { // P10.2: also by what is done with what is told
	m := some(12)
	w := m.made(t)
	var seen []api.Due
	for d := range w.All() {
		seen = append(seen, d)
		w.Cancel(d.ID)
		w.Set(d.ID+1<<20, 3)
		w.Advance(1)
	}
	if !slices.Equal(seen, m.sorted()) {
		t.Fatalf("All = %v, not %v", seen, m.sorted())
	}
}

func TestAllIsLeft(t *testing.T) { // P10.2: at any time, and gone over again, also within itself
	m := some(12)
	w := m.made(t)
	want := m.sorted()
	all := w.All()
	for most := range len(want) + 1 {
		var seen []api.Due
		for d := range all {
			if len(seen) == most {
				break
			}
			seen = append(seen, d)
		}
		if !slices.Equal(seen, want[:most]) {
			t.Fatalf("the first %d = %v", most, seen)
		}
	}
	n := 0
	for range all {
		for d := range all {
			if d != want[n%len(want)] {
				t.Fatalf("the thing %d = %v", n, d)
			}
			n++
		}
	}
	if n != len(want)*len(want) {
		t.Fatalf("it told %d things", n)
	}
	stands(t, w, m)
}

func TestAnswersAreNew(t *testing.T) { // P10.1, P10.2: who changes an answer changes nothing else
	m := some(12)
	w := m.made(t)
	due, _ := w.Advance(5)
	m.doTold(deed{call: "Advance", n: 5})
	for i := range due {
		due[i] = api.Due{At: 1, ID: 1}
	}
	due = append(due[:0:cap(due)], slices.Repeat([]api.Due{{At: 2, ID: 2}}, cap(due))...)
	listed := slices.Collect(w.All())
	clear(listed)
	stands(t, w, m)
	if more, _ := w.Advance(1 << 20); slices.Contains(more, due[0]) || len(more) == 0 {
		t.Errorf("Advance = %v", more)
	}
	for _, d := range due {
		if d != (api.Due{At: 2, ID: 2}) {
			t.Fatalf("an answer has become %v", d)
		}
	}
}

func TestCopy(t *testing.T) { // P10.3: the same, and each goes on apart
	for _, told := range []*wheelTold{{}, {now: 77}, some(0), some(1 << 40)} {
		m, n := told, told.copied()
		w := m.made(t)
		c := w.Copy()
		if c == w || !wheel.Same(w, c) {
			t.Fatal("a copy is not another one of the same")
		}
		stands(t, c, n)
		for i, x := range []deed{{"Set", 3, 70}, {"Set", 100, 70}, {"Cancel", 0, 0}, {"Advance", 0, 1}, {"Set", 0, 64}, {"Advance", 0, 66}, {"Set", 1 << 20, 6}} {
			does(t, w, m, x)
			stands(t, w, m)
			stands(t, c, n)
			if wheel.Same(w, c) {
				t.Fatalf("behind %d deeds, they are still the same", i+1)
			}
		}
		then := m.copied()
		for _, x := range []deed{{"Advance", 0, 64}, {"Set", 9, 1}, {"Cancel", 9, 0}, {"Set", 3, 9}} {
			does(t, c, n, x)
			stands(t, c, n)
			stands(t, w, then)
		}
	}
}

func TestCopyOfAFullOne(t *testing.T) { // P10.1, P10.3
	m := &wheelTold{}
	w := m.made(t)
	for i := range int64(api.MaxSet) {
		does(t, w, m, deed{"Set", i, 1 + i})
	}
	c := w.Copy()
	does(t, c, m.copied(), deed{"Set", 5000, 1})
	drains(t, c, m.copied(), 4096)
	stands(t, w, m)
}

func TestSame(t *testing.T) { // P10.3: each thing that is another one counts
	base := func() *wheelTold {
		return &wheelTold{now: 10, set: []api.Due{{At: 12, ID: 1}, {At: 76, ID: 2}, {At: 80, ID: 3}, {At: 12, ID: 4}}}
	}
	others := map[string]func(m *wheelTold){
		"a later time":        func(m *wheelTold) { m.now++ },
		"an earlier time":     func(m *wheelTold) { m.now-- },
		"a time a round off":  func(m *wheelTold) { m.now -= 10; m.set = nil },
		"one less":            func(m *wheelTold) { m.set = m.set[:3] },
		"the first one less":  func(m *wheelTold) { m.set = m.set[1:] },
		"one more":            func(m *wheelTold) { m.set = append(m.set, api.Due{At: 12, ID: 0}) },
		"none":                func(m *wheelTold) { m.set = nil },
		"another ID":          func(m *wheelTold) { m.set[0].ID = 7 },
		"a later tick":        func(m *wheelTold) { m.set[0].At++ },
		"an earlier tick":     func(m *wheelTold) { m.set[2].At-- },
		"a tick a round off":  func(m *wheelTold) { m.set[0].At += 64 },
		"a tick far off":      func(m *wheelTold) { m.set[1].At += 1 << 30 },
		"ticks, changed over": func(m *wheelTold) { m.set[0].At, m.set[1].At = m.set[1].At, m.set[0].At },
		"IDs, changed over":   func(m *wheelTold) { m.set[2].ID, m.set[3].ID = m.set[3].ID, m.set[2].ID },
	}
	w := base().made(t)
	if v := base().made(t); !wheel.Same(v, w) || !wheel.Same(w, w) {
		t.Error("what is the same is not")
	}
	for what, change := range others {
		m := base()
		change(m)
		v := m.made(t)
		if wheel.Same(v, w) || wheel.Same(w, v) || !wheel.Same(v, v.Copy()) {
			t.Errorf("%s is not told", what)
		}
	}
	if wheel.Same(wheel.New(), w) || wheel.Same(w, wheel.New()) || !wheel.Same(wheel.New(), wheel.New()) {
		t.Error("of new ones")
	}
}

func TestSameByOtherWays(t *testing.T) { // P10.3: however it came to stand so
	v, w := wheel.New(), wheel.New()
	sets(t, v, 1, 100)
	sets(t, v, 2, 7)
	passes(t, v, 40, api.Due{At: 7, ID: 2})
	passes(t, w, 1)
	sets(t, w, 1, 3)
	sets(t, w, 5, 1000)
	passes(t, w, 39, api.Due{At: 4, ID: 1})
	w.Cancel(5)
	if wheel.Same(v, w) {
		t.Error("the same, though one thing is not set")
	}
	sets(t, w, 1, 60)
	if !wheel.Same(v, w) || !wheel.Same(w, v) {
		t.Error("not the same")
	}
	v.Cancel(1)
	w.Cancel(1)
	passes(t, v, 0)
	if !wheel.Same(v, w) || !wheel.Same(w, v) {
		t.Error("not the same, though nothing is set")
	}
}

func TestNone(t *testing.T) { // P10.1 to P10.3: a wheel that is not there
	there := wheel.New()
	for i, w := range nones() {
		for x := range wrongs() {
			if g := do(w, x); !g.same(got{e: api.ErrNil}) {
				t.Fatalf("%d: %+v = %+v", i, x, g)
			}
		}
		for _, x := range []deed{{"Set", 1, 1}, {"Cancel", 1, 0}, {"Advance", 0, 0}, {"Advance", 0, 5}} {
			if g := do(w, x); !g.same(got{e: api.ErrNil}) {
				t.Fatalf("%d: %+v = %+v", i, x, g)
			}
		}
		shows(t, w, &wheelTold{})
		if w.All() == nil {
			t.Errorf("%d: there is no iterator", i)
		}
		if w.Copy() != nil {
			t.Errorf("%d: there is a copy", i)
		}
		for _, v := range nones() {
			if !wheel.Same(v, w) {
				t.Errorf("%d is not like another one that is not there", i)
			}
		}
		if wheel.Same(w, there) || wheel.Same(there, w) {
			t.Errorf("%d is like one that is there", i)
		}
	}
}

// anyDeed is mostly one that goes: of few IDs, ticks near and far.
func anyDeed(mix *rand.Rand) deed {
	odd := []int64{math.MinInt64, -1, 0, 1, api.MaxNumber, api.MaxNumber + 1, math.MaxInt64}
	id, n := mix.Int63n(40), 1+mix.Int63n(1<<uint(1+mix.Intn(31))-1)
	if mix.Intn(20) == 0 {
		id = odd[mix.Intn(len(odd))]
	}
	if mix.Intn(20) == 0 {
		n = odd[mix.Intn(len(odd))]
	}
	switch mix.Intn(8) {
	case 0, 1, 2, 3:
		return deed{"Set", id, n}
	case 4:
		return deed{call: "Cancel", id: id}
	case 5:
		return deed{call: "Advance", n: n}
	default:
		return deed{call: "Advance", n: mix.Int63n(100)}
	}
}

func TestWalks(t *testing.T) { // P10.1 to P10.4: whatever is done, in whatever order
	for seed := range int64(60) {
		mix := rand.New(rand.NewSource(seed))
		m := &wheelTold{}
		if seed%3 == 2 {
			m.now = lastTick - mix.Int63n(1<<33)
		}
		w := m.made(t)
		for range 400 {
			if mix.Intn(10) == 0 {
				w = w.Copy()
			}
			before := w.Copy()
			x := anyDeed(mix)
			then := m.copied()
			does(t, w, m, x)
			stands(t, w, m)
			stands(t, before, then)
		}
	}
}

func TestSplits(t *testing.T) { // P10.4: however ticks are split, the same is due, in the same order, and the same is left
	for seed := range int64(200) {
		mix := rand.New(rand.NewSource(seed))
		m := some(mix.Int63n(1000))
		whole := m.made(t)
		parts := whole.Copy()
		n := 1 + mix.Int63n(1<<uint(1+mix.Intn(30)))
		want, _ := whole.Advance(n)
		var got []api.Due
		for left := n; left > 0; {
			step := min(left, mix.Int63n(1+n/int64(1+mix.Intn(50))))
			due, e := parts.Advance(step)
			if e != api.OK {
				t.Fatal(e)
			}
			got, left = append(got, due...), left-step
			if step == 0 && mix.Intn(3) == 0 {
				left -= min(left, 1)
				due, _ = parts.Advance(1)
				got = append(got, due...)
			}
		}
		if !slices.Equal(got, want) || !wheel.Same(whole, parts) {
			t.Fatalf("%d ticks: %v, not %v", n, got, want)
		}
	}
}

func TestDueOnce(t *testing.T) { // P10.4: of many things, each one once, at its tick
	w := wheel.New()
	at := map[int64]int64{}
	mix := rand.New(rand.NewSource(1))
	for id := range int64(3000) {
		at[id], _ = w.Set(id, 1+mix.Int63n(5000))
	}
	for w.Now() < 6000 {
		begun := w.Now()
		due, e := w.Advance(mix.Int63n(200))
		if e != api.OK {
			t.Fatal(e)
		}
		for _, d := range due {
			if at[d.ID] != d.At || d.At <= begun || d.At > w.Now() {
				t.Fatalf("%v is due up to %d, not at %d", d, w.Now(), at[d.ID])
			}
			delete(at, d.ID)
		}
	}
	if len(at) > 0 || w.Len() > 0 {
		t.Fatalf("%d were not due", len(at))
	}
}

func FuzzWheel(f *testing.F) { // P10.1 to P10.4: whatever is done: what the document tells
	f.Add([]byte{0, 7, 5, 0, 3, 5, 0, 9, 2, 0, 9, 6, 2, 0, 5, 1, 3, 0, 1, 9, 0, 3, 0, 1})
	f.Add([]byte{0, 1, 64, 4, 2, 200, 5, 0, 3, 2, 0, 63, 2, 0, 1, 6, 0, 255})
	f.Fuzz(func(t *testing.T, b []byte) {
		m := &wheelTold{}
		w := m.made(t)
		for ; len(b) >= 3; b = b[3:] {
			x := deed{[]string{"Set", "Cancel", "Advance"}[b[0]%3], int64(b[1]) - 3, int64(b[2]) - 2}
			if b[0] >= 128 {
				x.n <<= b[0] % 40
			}
			does(t, w, m, x)
			shows(t, w, m)
		}
		stands(t, w, m)
	})
}
