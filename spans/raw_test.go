package spans_test

import (
	"bytes"
	"math/rand"
	"slices"
	"testing"

	"antiphon/api"
	"antiphon/spans"
)

// notRead asks whether bytes are no set's.
func notRead(t *testing.T, b []byte) {
	t.Helper()
	if s, e := spans.Read(b); s != nil || e != api.ErrSpan {
		t.Fatalf("Read(% x) = %v, %v", b, s, e)
	}
}

// reads asks whether bytes are those of a set of some spans.
func reads(t *testing.T, b []byte, l ...api.Span) {
	t.Helper()
	s, e := spans.Read(b)
	if s == nil || e != api.OK {
		t.Fatalf("Read(% x) = %v, %v", b, s, e)
	}
	holds(t, s, written(l...))
	if !bytes.Equal(s.Raw(), b) {
		t.Fatalf("Raw of Read(% x) = % x", b, s.Raw())
	}
	if !spans.Same(s, begin(t, l...)) {
		t.Fatalf("Read(% x) is another set", b)
	}
}

// parsed is the spans of a set's bytes, as the chapter's words have them, or that they are none's.
func parsed(b []byte) ([]api.Span, bool) {
	next := func() (int, bool) {
		for size := 1; size <= min(len(b), 3); size++ { // no number of a set has more bytes
			n := 0
			for i := size - 1; i >= 0; i-- {
				n = n*128 + int(b[i]%128)
			}
			if bytes.Equal(number(n), b[:size]) {
				b = b[size:]
				return n, true
			}
		}
		return 0, false
	}
	many, is := next()
	var all []api.Span
	last := 0
	for i := 0; is && i < many; i++ {
		ahead, one := next()
		has, two := next()
		x := of(last+ahead, last+ahead+has)
		is = one && two && has > 0 && x.To <= end && (i == 0 || ahead > 0)
		all, last = append(all, x), x.To
	}
	return all, is && len(b) == 0
}

// judge asks whether bytes are read where they are a set's, and are not where they are none's; it tells which.
func judge(t *testing.T, b []byte) bool {
	t.Helper()
	all, is := parsed(b)
	if !is {
		notRead(t, b)
		return false
	}
	s, e := spans.Read(b)
	if e != api.OK || !bytes.Equal(s.Raw(), b) || !slices.Equal(slices.Collect(s.All()), all) {
		t.Fatalf("Read(% x) = %v, %v, not %v", b, s, e, all)
	}
	return true
}

func TestRead(t *testing.T) { // P17.3, P17.4: a set of the bytes
	reads(t, []byte{0})
	reads(t, []byte{1, 0, 1}, of(0, 1))
	reads(t, []byte{1, 0, 0x80, 0x20}, of(0, end))
	reads(t, []byte{1, 0xff, 0x1f, 1}, of(end-1, end))
	reads(t, []byte{1, 1, 0xff, 0x1f}, of(1, end))
	reads(t, []byte{1, 127, 127}, of(127, 254))
	reads(t, []byte{1, 0x80, 1, 0x80, 1}, of(128, 256))
	reads(t, []byte{2, 0, 1, 1, 1}, row(0, 1, 2, 3)...)
	reads(t, []byte{2, 1, 1, 1, 4}, row(1, 2, 3, 7)...)
	reads(t, []byte{2, 0, 1, 0xfe, 0x1f, 1}, row(0, 1, end-1, end)...)
	reads(t, numbers(3, 5, 200, 300, 1, 1, 3589), row(5, 205, 505, 506, 507, end)...)
}

func TestReadRefuses(t *testing.T) { // P17.3: ErrSpan, of what is cut off, goes on, is not in the shortest form, is beyond, is no longest span
	for _, b := range [][]byte{
		nil,
		{},
		{1},
		{1, 0},
		{1, 1},
		{2},
		{2, 0, 1},
		{2, 0, 1, 1},
		{0, 0},
		{0, 1},
		{0, 0, 1},
		{1, 0, 1, 0},
		{1, 0, 1, 1, 1},
		{1, 0, 1, 0x80},
		{0x80},
		{0x80, 0},
		{0x81, 0, 0, 1},
		{1, 0x80, 0, 1},
		{1, 0, 0x81, 0},
		{1, 0, 0x80},
		{1, 0, 0x81, 0x80, 0},
		{1, 0, 0},
		{1, 5, 0},
		{2, 0, 0, 1, 1},
		{2, 0, 1, 1, 0},
		{2, 0, 1, 0, 1},
		{2, 5, 1, 0, 1},
		{3, 5, 1, 1, 1, 0, 1},
		numbers(1, 0, end+1),
		numbers(1, 1, end),
		numbers(1, end-1, 2),
		numbers(1, end, 0),
		numbers(1, end, 1),
		numbers(1, end+1, 0),
		numbers(1, end+1, 1),
		numbers(2, 0, end, 0, 0),
		numbers(2, 0, end, 0, 1),
		numbers(2, 0, end, 1, 0),
		numbers(2, 0, end, 1, 1),
		numbers(2, 0, end-1, 1, 1),
		numbers(2, 0, end-1, 1, 0),
		numbers(2, 0, end-2, 1, 2),
		numbers(2, end-2, 1, 2, 1),
		numbers(2, 0, 1, end, 1),
		numbers(2, 0, 1, end-1, 1),
		numbers(end+1, 0, 1),
		numbers(1<<31, 0, 1),
		numbers(1<<62, 0, 1),
		numbers(1, 1<<62, 1),
		numbers(1, 0, 1<<62),
		numbers(1, 1<<32, 1),
		numbers(1, 0, 1<<32+1),
		numbers(1<<32+1, 0, 1),
		numbers(2, 0, 1, 1<<32+1, 1),
		{255, 255, 255, 255, 255, 255, 255, 255, 255, 1},
		bytes.Repeat([]byte{255}, 12),
		bytes.Repeat([]byte{1}, 1<<16),
		make([]byte, 1<<20),
	} {
		notRead(t, b)
	}
}

// chain is bytes that tell so many spans, and lay as many of one number each, by one number apart.
func chain(told, laid int) []byte {
	b := number(told)
	for i := range laid {
		b = append(b, byte(min(i, 1)), 1)
	}
	return b
}

func TestReadMostSpans(t *testing.T) { // P17.3: as many as may be
	_, k := evens(t)
	reads(t, chain(end/2, end/2), k.runs(of(0, end), true)...)
	notRead(t, chain(end/2, end/2-1))
	notRead(t, chain(end/2, end/2+1))
	notRead(t, chain(end/2-1, end/2))
	notRead(t, chain(end/2+1, end/2+1))
	notRead(t, chain(end/2+1, end/2))
	notRead(t, chain(end, end))
	notRead(t, chain(end+1, end+1))
	notRead(t, chain(3*end, 3*end))
}

func TestReadEachShort(t *testing.T) { // P17.3, P17.4: all bytes of a few, and all of some few values of more
	for a := range 256 {
		judge(t, []byte{byte(a)})
		for b := range 256 {
			judge(t, []byte{byte(a), byte(b)})
			for _, c := range []byte{0, 1, 32, 128} {
				judge(t, []byte{byte(a), byte(b), c})
				judge(t, []byte{1, byte(a), byte(b), c})
				judge(t, []byte{1, c, byte(a), byte(b)})
				judge(t, []byte{1, byte(a), 31, c, byte(b)})
			}
		}
	}
	values := []byte{0, 1, 2, 31, 32, 128}
	many := 0
	var grow func([]byte)
	grow = func(b []byte) {
		if judge(t, b) {
			many++
		}
		if len(b) < 7 {
			for _, c := range values {
				grow(append(slices.Clone(b), c))
			}
		}
	}
	grow(nil)
	if many < 1000 {
		t.Fatalf("only %d of them were sets'", many)
	}
}

func TestReadChanged(t *testing.T) { // P17.3, P17.4: bytes that are cut, go on, or of which one is another
	all, _ := standing(t)
	for _, s := range all[:len(all)-1] {
		b := s.Raw()
		for at := range b {
			notRead(t, b[:at])
			notRead(t, append(slices.Clone(b), b[:at+1]...))
			for c := range 256 {
				other := slices.Clone(b)
				other[at] = byte(c)
				judge(t, other)
				judge(t, slices.Insert(slices.Clone(b), at, byte(c)))
			}
			judge(t, slices.Delete(slices.Clone(b), at, at+1))
		}
	}
}

func TestReadRandom(t *testing.T) { // P17.4: Read of Raw is the set, Raw of Read the bytes
	mix := rand.New(rand.NewSource(3))
	for range 300 {
		k := &book{}
		for range mix.Intn(60) {
			from := mix.Intn(end)
			k.write(of(from, min(end, from+mix.Intn(300))), mix.Intn(3) > 0)
		}
		b := k.raw()
		reads(t, b, k.runs(of(0, end), true)...)
		for range 20 {
			other := slices.Clone(b)
			other[mix.Intn(len(other))] ^= 1 << mix.Intn(8)
			judge(t, other)
		}
	}
}

func TestReadGoesOn(t *testing.T) { // P17.3: what is read is a set like any other
	s, e := spans.Read([]byte{2, 1, 1, 1, 4})
	if e != api.OK {
		t.Fatal(e)
	}
	k := written(row(1, 2, 3, 7)...)
	near(t, s, k, 0, 9)
	is(t, 2)(s.Add(of(0, 4)))
	holds(t, s, written(of(0, 7)))
	is(t, 7)(s.Cut(of(0, end)))
	holds(t, s, written())
}

func TestNothingHandedInIsKept(t *testing.T) { // nor changed, spare room behind it included
	l := append(make([]api.Span, 0, 8), row(5, 9, 1, 3, 9, 12)...)
	whole := append(l, row(100, 200)...)
	was := slices.Clone(whole)
	s := begin(t, l...)
	s.Add(of(3, 4))
	s.Cut(of(10, 11))
	if !slices.Equal(whole, was) {
		t.Errorf("%v were changed to %v", was, whole)
	}
	clear(whole)
	tells(t, s.All(), row(1, 4, 5, 10, 11, 12)...)

	b := append(make([]byte, 0, 9), 2, 1, 1, 1, 4)
	spare := append(b, 7, 7)
	s, e := spans.Read(b)
	if e != api.OK || !bytes.Equal(spare, []byte{2, 1, 1, 1, 4, 7, 7}) {
		t.Errorf("%v, and the bytes are % x", e, spare)
	}
	s.Add(of(20, 21))
	clear(spare)
	tells(t, s.All(), row(1, 2, 3, 7, 20, 21)...)
}

func TestAnswersAreNew(t *testing.T) { // what is told is nobody else's
	want := row(1, 2, 3, 7, 9, 10)
	s := begin(t, want...)
	for range 3 {
		gaps, b := s.Gaps(of(0, 20)), s.Raw()
		clear(gaps[:cap(gaps)])
		clear(b[:cap(b)])
		holds(t, s, written(want...))
		if got := s.Gaps(of(0, 20)); !slices.Equal(got, row(0, 1, 2, 3, 7, 9, 10, 20)) {
			t.Fatal(got)
		}
	}
	one, other := s.Gaps(of(0, 20)), s.Gaps(of(0, 20))
	clear(one)
	if !slices.Equal(other, row(0, 1, 2, 3, 7, 9, 10, 20)) {
		t.Errorf("the gaps became %v", other)
	}
}
