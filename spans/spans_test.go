package spans_test

import (
	"bytes"
	"iter"
	"math"
	"math/rand"
	"slices"
	"testing"

	"antiphon/api"
	"antiphon/spans"
)

const end = 4096 // MaxSlots

func of(from, to int) api.Span { return api.Span{From: from, To: to} }

// row makes spans of pairs of numbers.
func row(numbers ...int) []api.Span {
	var all []api.Span
	for i := 0; i < len(numbers); i += 2 {
		all = append(all, of(numbers[i], numbers[i+1]))
	}
	return all
}

// book is a set as the chapter's words tell it: of each number whether it is in it.
type book [end]bool

// written is the book of some spans.
func written(l ...api.Span) *book {
	k := &book{}
	for _, x := range l {
		k.write(x, true)
	}
	return k
}

// write puts a span's numbers in, or takes them out, and tells how many it changed.
func (k *book) write(x api.Span, is bool) int {
	many := 0
	for n := x.From; n < x.To; n++ {
		if k[n] != is {
			many++
		}
		k[n] = is
	}
	return many
}

// runs is the numbers of a span that are in the book, or are not, as the longest spans.
func (k *book) runs(x api.Span, is bool) []api.Span {
	var all []api.Span
	for n := x.From; n < x.To; n++ {
		switch {
		case k[n] != is:
		case n > x.From && k[n-1] == is:
			all[len(all)-1].To++
		default:
			all = append(all, of(n, n+1))
		}
	}
	return all
}

func (k *book) many() int {
	many := 0
	for _, is := range k {
		if is {
			many++
		}
	}
	return many
}

// gap is the first number from one on that is not in the book.
func (k *book) gap(from int) int {
	for n := range end {
		if n >= from && !k[n] {
			return n
		}
	}
	return end
}

// number is a number's bytes, as chapter 2 has them.
func number(n int) []byte {
	var b []byte
	for ; n > 127; n /= 128 {
		b = append(b, byte(n%128+128))
	}
	return append(b, byte(n))
}

// numbers is the bytes of some numbers, one behind the other.
func numbers(l ...int) []byte {
	var b []byte
	for _, n := range l {
		b = append(b, number(n)...)
	}
	return b
}

// raw is the book's bytes.
func (k *book) raw() []byte {
	all := k.runs(of(0, end), true)
	b, last := number(len(all)), 0
	for _, x := range all {
		b = append(b, numbers(x.From-last, x.To-x.From)...)
		last = x.To
	}
	return b
}

// huge are numbers that stand in no span.
func huge() []int {
	return []int{math.MinInt, math.MinInt + 1, math.MinInt32, -1 << 32, 1<<32 - 1, 1 << 32, 1<<32 + 1, 1<<32 + end, 1 << 62, -1 << 62, math.MaxInt32, math.MaxInt - 1, math.MaxInt}
}

// beyond are numbers that stand in no span, near ones too.
func beyond() []int {
	return append(huge(), -end, -256, -2, -1, end+1, end+2, 2*end)
}

// wrong are spans that may not be.
func wrong() []api.Span {
	all := row(1, 0, 2, 1, 5, 3, end, end-1, end, 0, 256, 255, 4095, 128)
	for _, n := range beyond() {
		for _, other := range append(beyond(), 0, 1, 7, 255, 256, end-1, end) {
			all = append(all, of(n, other), of(other, n))
		}
		all = append(all, of(n, n), of(n, n+1), of(n-1, n))
	}
	return slices.DeleteFunc(all, func(x api.Span) bool { return 0 <= x.From && x.From <= x.To && x.To <= end })
}

// edges are numbers about which something may change.
func edges() []int {
	return []int{0, 1, 2, 3, 7, 8, 9, 126, 127, 128, 129, 254, 255, 256, 257, 2047, 2048, 2049, 4093, 4094, 4095, 4096}
}

// right are spans that may be, from and to edges, empty ones too.
func right() []api.Span {
	var all []api.Span
	for _, from := range edges() {
		for _, to := range edges() {
			if from <= to {
				all = append(all, of(from, to))
			}
		}
	}
	return all
}

func begin(t *testing.T, l ...api.Span) *spans.Set {
	t.Helper()
	s, e := spans.New(l...)
	if s == nil || e != api.OK {
		t.Fatalf("New(%v) = %v, %v", l, s, e)
	}
	return s
}

// is asks whether a call answered a number, and no error.
func is(t *testing.T, want int) func(int, api.Errno) {
	t.Helper()
	return func(n int, e api.Errno) {
		t.Helper()
		if n != want || e != api.OK {
			t.Fatalf("%d, %v, not %d", n, e, want)
		}
	}
}

// refused asks whether a call answered an error, and nothing beside it.
func refused(t *testing.T, why api.Errno) func(int, api.Errno) {
	t.Helper()
	return func(n int, e api.Errno) {
		t.Helper()
		if n != 0 || e != why {
			t.Fatalf("%d, %v, not %v", n, e, why)
		}
	}
}

// tells asks whether spans are gone over, and no others.
func tells(t *testing.T, all iter.Seq[api.Span], want ...api.Span) {
	t.Helper()
	if all == nil {
		t.Fatal("there is no iterator")
	}
	if got := slices.Collect(all); !slices.Equal(got, want) {
		t.Fatalf("the spans are %v, not %v", got, want)
	}
}

// holds asks whether a set is just what a book says.
func holds(t *testing.T, s *spans.Set, k *book) {
	t.Helper()
	tells(t, s.All(), k.runs(of(0, end), true)...)
	if got, want := s.Many(), k.many(); got != want {
		t.Fatalf("there are %d numbers, not %d", got, want)
	}
	if got, want := s.Raw(), k.raw(); !bytes.Equal(got, want) {
		t.Fatalf("the bytes are % x, not % x", got, want)
	}
}

// near asks a set of all numbers and spans from one on, up to another, and of some beside these.
func near(t *testing.T, s *spans.Set, k *book, from, to int) {
	t.Helper()
	for n := from - 3; n <= to+3; n++ {
		if got, want := s.Has(n), n >= 0 && n < end && k[n]; got != want {
			t.Fatalf("Has(%d) = %v", n, got)
		}
		if got, want := s.Gap(n), k.gap(n); got != want {
			t.Fatalf("Gap(%d) = %d, not %d", n, got, want)
		}
		for other := n; other <= to+3; other++ {
			asks(t, s, k, of(n, other))
		}
	}
}

// asks asks a set of a span.
func asks(t *testing.T, s *spans.Set, k *book, x api.Span) {
	t.Helper()
	var gaps []api.Span
	may := 0 <= x.From && x.From <= x.To && x.To <= end
	if may {
		gaps = k.runs(x, false)
	}
	if got := s.Gaps(x); !slices.Equal(got, gaps) {
		t.Fatalf("Gaps(%v) = %v, not %v", x, got, gaps)
	}
	if got, want := s.Covers(x), may && len(gaps) == 0; got != want {
		t.Fatalf("Covers(%v) = %v", x, got)
	}
}

func TestNumbers(t *testing.T) { // as the chapter numbers it
	if api.ErrSpan != 270 {
		t.Error(api.ErrSpan)
	}
}

func TestExamples(t *testing.T) { // P17.1, P17.2, P17.3: the rows are of one set
	s := begin(t, row(3, 5, 5, 7)...)
	tells(t, s.All(), of(3, 7))
	is(t, 2)(s.Add(of(1, 4)))
	tells(t, s.All(), of(1, 7))
	is(t, 1)(s.Cut(of(2, 3)))
	tells(t, s.All(), row(1, 2, 3, 7)...)
	if a, b := s.Gap(0), s.Gap(1); a != 0 || b != 2 {
		t.Error(a, b)
	}
	if gaps := s.Gaps(of(0, 8)); !slices.Equal(gaps, row(0, 1, 2, 3, 7, 8)) {
		t.Error(gaps)
	}
	if b := s.Raw(); !bytes.Equal(b, []byte{2, 1, 1, 1, 4}) {
		t.Errorf("% x", b)
	}
	notRead(t, []byte{1, 0, 0})
	notRead(t, []byte{2, 1, 1, 0, 1})
}

func TestNew(t *testing.T) { // P17.1: all numbers of these, whatever their order, also of empty ones, and of none
	for _, l := range [][]api.Span{
		nil,
		{},
		{{}},
		row(0, 0, 7, 7, end, end),
		row(0, end),
		row(0, 1),
		row(end-1, end),
		row(end-1, end, 0, 1),
		row(5, 9, 1, 3),
		row(5, 9, 3, 5),
		row(3, 5, 5, 9),
		row(3, 6, 5, 9, 1, 4),
		row(3, 9, 4, 5, 4, 5),
		row(1, 2, 3, 4, 5, 6, 0, 7),
		row(0, 2000, 2001, end, 2000, 2001),
		right(),
	} {
		s := begin(t, l...)
		holds(t, s, written(l...))
		if s == begin(t, l...) {
			t.Fatal("one set was given twice")
		}
	}
}

func TestNewRefuses(t *testing.T) { // P17.1: ErrArg, wherever the wrong one stands
	for _, x := range wrong() {
		for _, l := range [][]api.Span{{x}, {x, of(1, 2)}, {of(1, 2), x}, {of(1, 2), x, of(0, end)}, {of(0, end), x}, {x, x}} {
			if s, e := spans.New(l...); s != nil || e != api.ErrArg {
				t.Fatalf("New(%v) = %v, %v", l, s, e)
			}
		}
	}
}

// windows are where the sets of a few numbers stand: at both ends, and where numbers get another byte.
func windows() []int { return []int{0, 1, 124, 2044, end - 9, end - 8} }

const wide = 8 // how many numbers a window has

// sub is the set of those numbers of a window whose bits are set.
func sub(t *testing.T, at, bits int) (*spans.Set, *book) {
	t.Helper()
	s, k := begin(t), &book{}
	for i := range wide {
		if bits>>i&1 == 1 {
			is(t, 1)(s.Add(of(at+i, at+i+1)))
			k.write(of(at+i, at+i+1), true)
		}
	}
	return s, k
}

func TestAskEachSet(t *testing.T) { // P17.2, P17.3: all sets of a few numbers, by all that may be asked there
	for _, at := range windows() {
		for bits := range 1 << wide {
			s, k := sub(t, at, bits)
			holds(t, s, k)
			near(t, s, k, at, at+wide)
			if got := s.Gap(end - 1); got != k.gap(end-1) {
				t.Fatalf("Gap of the last number is %d", got)
			}
		}
	}
}

func TestChangeEachSet(t *testing.T) { // P17.1: all sets of a few numbers, all spans there: how many were not, were in it; what is in it then
	for _, at := range windows() {
		for bits := range 1 << wide {
			s, k := sub(t, at, bits)
			for from := range wide + 1 {
				for to := from; to <= wide; to++ {
					x := of(at+from, at+to)
					added, cut := s.Copy(), s.Copy()
					more, less := *k, *k
					is(t, more.write(x, true))(added.Add(x))
					is(t, less.write(x, false))(cut.Cut(x))
					tells(t, added.All(), more.runs(of(at, at+wide), true)...)
					tells(t, cut.All(), less.runs(of(at, at+wide), true)...)
					is(t, 0)(added.Add(x))
					is(t, 0)(cut.Cut(x))
					if !added.Covers(x) || !slices.Equal(cut.Gaps(x), written(x).runs(x, true)) {
						t.Fatalf("of %v: %v is covered, the gaps are %v", x, added.Covers(x), cut.Gaps(x))
					}
				}
			}
			holds(t, s, k)
		}
	}
}

// evens is the set of each second number: it has as many spans as may be.
func evens(t *testing.T) (*spans.Set, *book) {
	t.Helper()
	s, k := begin(t), &book{}
	for n := 0; n < end; n += 2 {
		is(t, 1)(s.Add(of(n, n+1)))
		k[n] = true
	}
	return s, k
}

func TestMostSpans(t *testing.T) { // P17.1, P17.2, P17.3: each second number, parted and filled
	s, k := evens(t)
	holds(t, s, k)
	near(t, s, k, 0, 20)
	near(t, s, k, end-20, end)
	for _, x := range right() {
		asks(t, s, k, x)
		added, cut := s.Copy(), s.Copy()
		more, less := *k, *k
		is(t, more.write(x, true))(added.Add(x))
		is(t, less.write(x, false))(cut.Cut(x))
		holds(t, added, &more)
		holds(t, cut, &less)
	}
	is(t, end/2)(s.Add(of(0, end)))
	tells(t, s.All(), of(0, end))
	for n := 1; n < end; n += 2 {
		is(t, 1)(s.Cut(of(n, n+1)))
	}
	holds(t, s, k)
	is(t, end/2)(s.Cut(of(0, end)))
	tells(t, s.All())
}

func TestWhole(t *testing.T) { // P17.1, P17.2: all numbers, and none
	s := begin(t)
	holds(t, s, written())
	near(t, s, written(), 0, 5)
	near(t, s, written(), end-5, end)
	is(t, end)(s.Add(of(0, end)))
	is(t, 0)(s.Add(of(0, end)))
	all := written(of(0, end))
	holds(t, s, all)
	near(t, s, all, 0, 5)
	near(t, s, all, end-5, end)
	is(t, 1)(s.Cut(of(0, 1)))
	is(t, 1)(s.Cut(of(end-1, end)))
	tells(t, s.All(), of(1, end-1))
	is(t, end-2)(s.Cut(of(0, end)))
	is(t, 0)(s.Cut(of(0, end)))
	holds(t, s, written())
}

func TestEdges(t *testing.T) { // P17.1, P17.2: each two spans of edges
	for _, x := range right() {
		k := written(x)
		s := begin(t, x)
		holds(t, s, k)
		for _, y := range right() {
			added, cut := s.Copy(), s.Copy()
			more, less := *k, *k
			is(t, more.write(y, true))(added.Add(y))
			is(t, less.write(y, false))(cut.Cut(y))
			tells(t, added.All(), more.runs(of(0, end), true)...)
			tells(t, cut.All(), less.runs(of(0, end), true)...)
			asks(t, s, k, y)
		}
		holds(t, s, k)
	}
}

// standing are sets of several shapes, with their books.
func standing(t *testing.T) (all []*spans.Set, books []*book) {
	t.Helper()
	for _, l := range [][]api.Span{nil, row(0, 1), row(end-1, end), row(0, end), row(1, end-1), row(0, 5, 7, 9, 4000, end), row(3, 200, 255, 256, 300, 2048)} {
		all, books = append(all, begin(t, l...)), append(books, written(l...))
	}
	s, k := evens(t)
	return append(all, s), append(books, k)
}

func TestEmptySpans(t *testing.T) { // P17.1, P17.2: they may be, change nothing, are covered, have no gaps
	all, books := standing(t)
	for i, s := range all {
		for n := range end + 1 {
			is(t, 0)(s.Add(of(n, n)))
			is(t, 0)(s.Cut(of(n, n)))
			if gaps := s.Gaps(of(n, n)); len(gaps) != 0 || !s.Covers(of(n, n)) {
				t.Fatalf("of %d up to it: %v, the gaps are %v", n, s.Covers(of(n, n)), gaps)
			}
		}
		holds(t, s, books[i])
	}
}

func TestWrongSpans(t *testing.T) { // P17.1, P17.2: ErrArg, and nothing changes; none is covered, none has gaps
	all, books := standing(t)
	for i, s := range all {
		for _, x := range wrong() {
			refused(t, api.ErrArg)(s.Add(x))
			refused(t, api.ErrArg)(s.Cut(x))
			if gaps := s.Gaps(x); len(gaps) != 0 || s.Covers(x) {
				t.Fatalf("of %v: %v, the gaps are %v", x, s.Covers(x), gaps)
			}
		}
		holds(t, s, books[i])
	}
}

func TestFarNumbers(t *testing.T) { // P17.2: those that no set has; Gap counts from 0 on, and tells MaxSlots where there is none
	all, books := standing(t)
	for i, s := range all {
		for _, n := range append(beyond(), end) {
			want := end
			if n < 0 {
				want = books[i].gap(0)
			}
			if got := s.Gap(n); s.Has(n) || got != want {
				t.Fatalf("of %d: %v, the gap is %d, not %d", n, s.Has(n), got, want)
			}
		}
	}
}

func TestHasAndGapOfEach(t *testing.T) { // P17.2: of all numbers
	all, books := standing(t)
	for i, s := range all {
		next := end
		for n := end - 1; n >= 0; n-- {
			if !books[i][n] {
				next = n
			}
			if s.Has(n) != books[i][n] || s.Gap(n) != next {
				t.Fatalf("of %d: %v, the gap is %d, not %d", n, s.Has(n), s.Gap(n), next)
			}
		}
		if s.Gap(-1) != next {
			t.Fatal(s.Gap(-1))
		}
	}
}

func TestNil(t *testing.T) { // P17.1, P17.2, P17.3: ErrNil ahead of ErrArg; zero answers; an iterator that tells nothing
	for _, s := range []*spans.Set{nil, {}} {
		for _, x := range append(wrong(), right()...) {
			refused(t, api.ErrNil)(s.Add(x))
			refused(t, api.ErrNil)(s.Cut(x))
			if gaps := s.Gaps(x); len(gaps) != 0 || s.Covers(x) {
				t.Fatalf("of %v: %v, the gaps are %v", x, s.Covers(x), gaps)
			}
		}
		for _, n := range append(beyond(), edges()...) {
			if s.Has(n) || s.Gap(n) != 0 {
				t.Fatalf("of %d: %v, %d", n, s.Has(n), s.Gap(n))
			}
		}
		tells(t, s.All())
		if s.Many() != 0 || len(s.Raw()) != 0 || s.Copy() != nil {
			t.Errorf("%d, % x, %v", s.Many(), s.Raw(), s.Copy())
		}
	}
	if zero := (spans.Set{}); zero.Copy() != nil || spans.Same(&zero, begin(t)) {
		t.Error("who was called nil is another one then")
	}
}

func TestAll(t *testing.T) { // P17.3: as they are when it is called; it may be left at any time, and gone over again
	s := begin(t, row(1, 2, 3, 7, 9, 10, 4000, end)...)
	want := row(1, 2, 3, 7, 9, 10, 4000, end)
	all := s.All()
	for many := range len(want) + 1 {
		var got []api.Span
		if many > 0 {
			for x := range all {
				if got = append(got, x); len(got) == many {
					break
				}
			}
		}
		if !slices.Equal(got, want[:many]) {
			t.Fatalf("left behind %d: %v", many, got)
		}
		tells(t, all, want...)
	}
	for range all { // one within the other
		tells(t, all, want...)
	}
}

func TestAllAsItIsWhenCalled(t *testing.T) { // P17.3: what is changed behind the call, also while one goes over it, is not told
	change := []func(*spans.Set){
		func(s *spans.Set) { s.Add(of(0, 1)) },
		func(s *spans.Set) { s.Add(of(2, 3)) },
		func(s *spans.Set) { s.Add(of(20, 30)) },
		func(s *spans.Set) { s.Add(of(0, end)) },
		func(s *spans.Set) { s.Cut(of(3, 4)) },
		func(s *spans.Set) { s.Cut(of(4, 5)) },
		func(s *spans.Set) { s.Cut(of(1, 2)) },
		func(s *spans.Set) { s.Cut(of(0, end)) },
	}
	want := row(1, 2, 3, 7, 9, 10)
	for _, first := range change {
		for _, second := range change {
			s := begin(t, want...)
			all := s.All()
			tells(t, all, want...)
			first(s)
			tells(t, all, want...)
			other := s.All()
			then := slices.Collect(other)
			var got []api.Span
			for x := range all {
				second(s)
				got = append(got, x)
			}
			if !slices.Equal(got, want) {
				t.Fatalf("changed on the way: %v", got)
			}
			tells(t, other, then...)
		}
	}
}

func TestCopy(t *testing.T) { // P17.3: the same, and each goes on apart
	all, books := standing(t)
	for i, s := range all {
		for _, x := range right() {
			other := s.Copy()
			if other == s || !spans.Same(s, other) {
				t.Fatal("a copy is another one of the same")
			}
			k := *books[i]
			other.Add(x)
			k.write(x, true)
			tells(t, other.All(), k.runs(of(0, end), true)...)
			third := other.Copy()
			other.Cut(x)
			tells(t, third.All(), k.runs(of(0, end), true)...)
			tells(t, s.All(), books[i].runs(of(0, end), true)...)
		}
		first, k := s.Copy(), *books[i]
		s.Add(of(10, 20))
		s.Cut(of(30, 40))
		holds(t, first, &k)
	}
}

func TestSame(t *testing.T) { // P17.3: the same numbers, and no others; a nil one is like a nil one alone
	var ones, others []*spans.Set
	for bits := range 1 << wide {
		one, _ := sub(t, 0, bits)
		other := begin(t, of(0, wide))
		for i := wide - 1; i >= 0; i-- {
			if bits>>i&1 == 0 {
				is(t, 1)(other.Cut(of(i, i+1)))
			}
		}
		ones, others = append(ones, one), append(others, other)
	}
	for _, x := range row(end-1, end, 0, end, 128, 256, 0, 9, 0, 10) {
		ones, others = append(ones, begin(t, x)), append(others, begin(t, x))
	}
	for i, a := range ones {
		for j, b := range others {
			if spans.Same(a, b) != (i == j) {
				t.Fatalf("Same of %d and %d is %v", i, j, i != j)
			}
		}
		for _, nobody := range []*spans.Set{nil, {}} {
			if spans.Same(a, nobody) || spans.Same(nobody, a) {
				t.Fatalf("%d is like a nil one", i)
			}
		}
	}
	for _, a := range []*spans.Set{nil, {}} {
		for _, b := range []*spans.Set{nil, {}} {
			if !spans.Same(a, b) {
				t.Error("nil ones are not the same")
			}
		}
	}
}

// walk takes steps from here and there, and holds a set against a book at each.
func walk(t *testing.T, mix *rand.Rand, steps, at, span, most int) {
	t.Helper()
	s, k := begin(t), &book{}
	for step := range steps {
		from := at + mix.Intn(span+1)
		x := of(from, min(from+mix.Intn(most+1), at+span))
		switch mix.Intn(8) {
		case 0, 1, 2, 3:
			is(t, k.write(x, true))(s.Add(x))
		case 4, 5, 6:
			is(t, k.write(x, false))(s.Cut(x))
		default:
			refused(t, api.ErrArg)(s.Add(of(x.To, x.From-1)))
			refused(t, api.ErrArg)(s.Cut(of(x.To, x.From-1)))
		}
		asks(t, s, k, of(at, at+span))
		y := of(at, at+mix.Intn(span+1))
		asks(t, s, k, y)
		if n := y.To; s.Gap(n) != k.gap(n) || s.Has(n) != (n < end && k[n]) {
			t.Fatalf("of %d: %d, %v", n, s.Gap(n), s.Has(n))
		}
		if step%8 == 0 {
			holds(t, s, k)
			other, e := spans.Read(s.Raw())
			if e != api.OK || !spans.Same(s, other) {
				t.Fatalf("behind %d steps the bytes tell another set, %v", step, e)
			}
		}
	}
}

func TestWalks(t *testing.T) { // P17.1 to P17.4
	mix := rand.New(rand.NewSource(17))
	for range 10 {
		walk(t, mix, 300, 0, end, 600)
		walk(t, mix, 300, 0, end, 5)
		walk(t, mix, 300, 100, 60, 8)
		walk(t, mix, 300, end-40, 40, 6)
		walk(t, mix, 300, 0, 30, 4)
	}
}

// pieces cuts a span into some, of which some come twice, or lap over others.
func pieces(mix *rand.Rand, x api.Span) []api.Span {
	var all []api.Span
	for from := x.From; from < x.To; {
		to := min(from+1+mix.Intn(40), x.To)
		all = append(all, of(from, to))
		if mix.Intn(3) == 0 {
			all = append(all, of(max(x.From, from-mix.Intn(30)), min(x.To, to+mix.Intn(30))), of(from, to), of(to, to))
		}
		from = to
	}
	return all
}

func TestHoweverAdded(t *testing.T) { // P17.4: in whatever order, however cut, however often
	mix := rand.New(rand.NewSource(4))
	for _, l := range [][]api.Span{row(0, 100), row(5, 9, 11, 300, 301, 302), row(0, end), row(end-300, end, 0, 20, 1000, 1500)} {
		first := begin(t, l...)
		for range 20 {
			var all []api.Span
			for _, x := range l {
				all = append(all, pieces(mix, x)...)
			}
			mix.Shuffle(len(all), func(i, j int) { all[i], all[j] = all[j], all[i] })
			at := mix.Intn(len(all))
			s := begin(t, all[:at]...)
			many := s.Many()
			for _, x := range all[at:] {
				more, e := s.Add(x)
				if many += more; e != api.OK || s.Many() != many {
					t.Fatalf("Add(%v) = %d, %v: %d numbers are %d", x, more, e, many, s.Many())
				}
			}
			if !spans.Same(first, s) || !bytes.Equal(first.Raw(), s.Raw()) {
				t.Fatalf("%v is another set", all)
			}
			holds(t, s, written(l...))
		}
	}
}

func TestGapsAreTheRest(t *testing.T) { // P17.4: gaps and what is in it are all there is
	mix := rand.New(rand.NewSource(2))
	all, _ := standing(t)
	for range 20 {
		s := begin(t)
		for range mix.Intn(200) {
			from := mix.Intn(end)
			s.Add(of(from, min(end, from+mix.Intn(50))))
		}
		all = append(all, s)
	}
	for _, s := range all {
		gaps := s.Gaps(of(0, end))
		rest := begin(t, gaps...)
		tells(t, rest.All(), gaps...)
		if rest.Many()+s.Many() != end {
			t.Fatalf("%d and %d are not all", rest.Many(), s.Many())
		}
		for _, x := range gaps {
			is(t, x.To-x.From)(s.Copy().Add(x))
			is(t, x.To-x.From)(rest.Cut(x))
		}
		for x := range s.All() {
			is(t, x.To-x.From)(s.Copy().Cut(x))
			is(t, x.To-x.From)(rest.Add(x))
		}
		if !spans.Same(rest, s) {
			t.Fatal("what has no gap is not what is in it")
		}
	}
}
