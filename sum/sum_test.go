package sum_test

import (
	"bytes"
	"hash/crc32"
	"math"
	"testing"

	"antiphon/api"
	"antiphon/sum"
)

const top = int64(1) << 40

// told is the sum just as the document tells it: byte by byte, bit by bit.
func told(b []byte) uint32 {
	w := ^uint32(0)
	for _, c := range b {
		w ^= uint32(c)
		for range 8 {
			w = onceByX(w)
		}
	}
	return ^w
}

func onceByX(w uint32) uint32 {
	low := w & 1
	w >>= 1
	if low == 1 {
		w ^= 3988292384
	}
	return w
}

// product is that of two words as the document tells it: a sum of the second one, by x, over the first one's bits.
func product(a, b uint32) uint32 {
	all := uint32(0)
	for power := range 32 {
		if a&(1<<(31-power)) == 0 {
			continue
		}
		by := b
		for range power {
			by = onceByX(by)
		}
		all ^= by
	}
	return all
}

// some makes n bytes that look like none of a kind, the same each time.
func some(n int, seed uint32) []byte {
	b := make([]byte, n)
	for i := range b {
		seed = seed*1664525 + 1013904223
		b[i] = byte(seed >> 24)
	}
	return b
}

// words are some that stand at edges, and some that do not.
func words() []uint32 {
	l := []uint32{0, 1, 2, 5, 0x80000000, 0x40000000, 0xedb88320, 0xffffffff, 0x7fffffff, 0xcbf43926}
	w := uint32(9)
	for range 20 {
		w = w*1664525 + 1013904223
		l = append(l, w)
	}
	return l
}

func TestSumOfOne(t *testing.T) { // P1.1
	for _, c := range []struct {
		in   string
		want uint32
	}{
		{"", 0},
		{"a", 0xe8b7be43},
		{"123456789", 0xcbf43926},
		{"The quick brown fox jumps over the lazy dog", 0x414fa339},
		{"\x00\x00\x00\x00", 0x2144df1c},
		{"\xff\xff\xff\xff", 0xffffffff},
	} {
		if got := sum.Sum([]byte(c.in)); got != c.want {
			t.Errorf("Sum(%q) = %08x, not %08x", c.in, got, c.want)
		}
	}
	for c := range 256 {
		if b := []byte{byte(c)}; sum.Sum(b) != told(b) {
			t.Errorf("Sum of byte %d = %08x, not %08x", c, sum.Sum(b), told(b))
		}
	}
	for n := range 300 {
		b := some(n, uint32(n))
		if got := sum.Sum(b); got != told(b) || got != crc32.ChecksumIEEE(b) {
			t.Errorf("Sum of %d bytes = %08x, not %08x", n, got, told(b))
		}
	}
	if b := some(api.MaxText, 3); sum.Sum(b) != crc32.ChecksumIEEE(b) {
		t.Error("Sum of MaxText bytes")
	}
}

func TestSumOfParts(t *testing.T) { // P1.1
	for i, got := range []uint32{sum.Sum(), sum.Sum(nil), sum.Sum([]byte{}), sum.Sum(nil, []byte{}, nil)} {
		if got != 0 {
			t.Errorf("row %d: the sum of nothing is %08x", i, got)
		}
	}
	b := some(40, 1)
	want := told(b)
	for i := range b {
		for j := i; j <= len(b); j++ {
			if got := sum.Sum(b[:i], b[i:j], b[j:]); got != want {
				t.Fatalf("in parts at %d, %d: %08x, not %08x", i, j, got, want)
			}
		}
	}
	var single [][]byte
	for i := range b {
		single = append(single, b[i:i+1], nil)
	}
	if got := sum.Sum(single...); got != want {
		t.Errorf("byte by byte: %08x, not %08x", got, want)
	}
	if sum.Sum([]byte("ab"), []byte("cd")) == sum.Sum([]byte("cd"), []byte("ab")) {
		t.Error("the order of parts does not count")
	}
}

func TestMore(t *testing.T) { // P1.1
	b := some(60, 2)
	for i := range len(b) + 1 {
		if got := sum.More(sum.Sum(b[:i]), b[i:]); got != told(b) {
			t.Errorf("more behind %d bytes: %08x, not %08x", i, got, told(b))
		}
		if got := sum.More(0, b[:i]); got != told(b[:i]) {
			t.Errorf("more behind none: %08x, not %08x", got, told(b[:i]))
		}
	}
	for _, w := range words() {
		if sum.More(w, nil) != w || sum.More(w, []byte{}) != w {
			t.Errorf("no more behind %08x is another sum", w)
		}
	}
	running := uint32(0)
	for _, c := range b {
		running = sum.More(running, []byte{c})
	}
	if running != told(b) {
		t.Errorf("byte by byte: %08x, not %08x", running, told(b))
	}
}

func TestMul(t *testing.T) { // P1.2
	if got := sum.Mul(0x80000000, 5); got != 5 {
		t.Errorf("1 by 5 = %08x", got)
	}
	if got := sum.Mul(1, 0x40000000); got != 0xedb88320 {
		t.Errorf("the greatest power by x = %08x", got)
	}
	for _, a := range words() {
		if sum.Mul(a, 0) != 0 || sum.Mul(0, a) != 0 {
			t.Errorf("%08x by 0 is not 0", a)
		}
		if sum.Mul(a, 0x80000000) != a || sum.Mul(0x80000000, a) != a {
			t.Errorf("%08x by 1 is another", a)
		}
		if sum.Mul(a, 0x40000000) != onceByX(a) {
			t.Errorf("%08x by x = %08x", a, sum.Mul(a, 0x40000000))
		}
		for _, b := range words() {
			if got := sum.Mul(a, b); got != product(a, b) {
				t.Errorf("%08x by %08x = %08x, not %08x", a, b, got, product(a, b))
			}
		}
	}
}

func TestPower(t *testing.T) { // P1.2
	want := uint32(0x80000000)
	for n := range int64(2000) {
		if got, e := sum.Power(n); got != want || e != api.OK {
			t.Fatalf("the power of %d = %08x, %v, not %08x", n, got, e, want)
		}
		want = onceByX(want)
	}
	// 2^32 - 1 times by x is once by 1, so a great power is that of what is left of its number.
	for _, c := range []struct{ n, same int64 }{
		{math.MaxUint32, 0},
		{math.MaxUint32 + 1, 1},
		{top - 1, 255},
		{top, 256},
	} {
		got, e := sum.Power(c.n)
		want, _ := sum.Power(c.same)
		if got != want || e != api.OK {
			t.Errorf("the power of %d = %08x, %v, not %08x", c.n, got, e, want)
		}
	}
}

func TestPowerRefused(t *testing.T) { // P1.2
	for _, n := range []int64{-1, -2, -top, math.MinInt64, top + 1, top + 2, 2 * top, math.MaxInt64} {
		if got, e := sum.Power(n); got != 0 || e != api.ErrArg {
			t.Errorf("the power of %d = %08x, %v", n, got, e)
		}
		if got, e := sum.Join(3, 4, n); got != 0 || e != api.ErrArg {
			t.Errorf("joined over %d bytes: %08x, %v", n, got, e)
		}
	}
}

func TestJoin(t *testing.T) { // P1.2
	for _, a := range words() {
		for i, b := range words() {
			p, _ := sum.Power(8 * int64(i))
			if got, e := sum.Join(a, b, int64(i)); got != product(a, p)^b || e != api.OK {
				t.Errorf("%08x and %08x over %d bytes: %08x, %v", a, b, i, got, e)
			}
		}
		if got, e := sum.Join(a, 5, 0); got != a^5 || e != api.OK {
			t.Errorf("%08x and 5 over no bytes: %08x, %v", a, got, e)
		}
	}
	// 8 times 2^40 is 2^11 over whole rounds of 2^32 - 1.
	for _, c := range []struct{ n, power int64 }{{top, 2048}, {top - 1, 2040}} {
		p, _ := sum.Power(c.power)
		if got, e := sum.Join(0xcbf43926, 7, c.n); got != product(0xcbf43926, p)^7 || e != api.OK {
			t.Errorf("over %d bytes: %08x, %v", c.n, got, e)
		}
	}
}

func TestSeal(t *testing.T) { // P1.3
	for _, c := range []struct{ in, want string }{
		{"", "\x00\x00\x00\x00"},
		{"123456789", "123456789\x26\x39\xf4\xcb"},
		{"a", "a\x43\xbe\xb7\xe8"},
	} {
		if got := sum.Seal([]byte(c.in)); string(got) != c.want {
			t.Errorf("Seal(%q) = %q, not %q", c.in, got, c.want)
		}
	}
	if got := sum.Seal(nil); string(got) != "\x00\x00\x00\x00" {
		t.Errorf("Seal(nil) = %q", got)
	}
	for n := range 200 {
		b := some(n, uint32(n)+7)
		if got, e := sum.Open(sum.Seal(b)); !bytes.Equal(got, b) || e != api.OK {
			t.Errorf("%d bytes come back as %d, %v", n, len(got), e)
		}
	}
}

func TestOpenRefused(t *testing.T) { // P1.3
	whole := sum.Seal([]byte("hi"))
	for i, b := range [][]byte{
		nil,
		{},
		{0},
		{0, 0},
		{0, 0, 0},
		[]byte("abc"),
		[]byte("abcd"),
		{1, 0, 0, 0},
		{0, 0, 0, 1},
		{0xff, 0xff, 0xff, 0xff},
		{0, 0, 0, 0, 0},
		{0, 0, 0, 0, 0, 0, 0, 0},
		[]byte("123456789\xcb\xf4\x39\x26"),
		[]byte("\x26\x39\xf4\xcb123456789"),
		whole[1:],
		whole[:len(whole)-1],
		append(bytes.Clone(whole), 0),
		append([]byte{0}, whole...),
		[]byte("hI" + string(whole[2:])),
	} {
		if got, e := sum.Open(b); len(got) != 0 || e != api.ErrSum {
			t.Errorf("row %d: Open(%q) = %q, %v", i, b, got, e)
		}
	}
	if got, e := sum.Open(make([]byte, 4)); len(got) != 0 || e != api.OK {
		t.Errorf("no bytes, sealed: %q, %v", got, e)
	}
}

func TestNothingHandedInIsChangedOrShared(t *testing.T) { // P1.1, P1.3
	room := append([]byte("hi"), sum.Seal([]byte("hi"))[2:]...)
	room = append(room, "spare room"...)
	before := string(room)
	body, sealed := room[:2], room[:6]
	sum.Sum(body, sealed, body)
	sum.More(1, body)
	s1, s2 := sum.Seal(body), sum.Seal(body)
	o1, e := sum.Open(sealed)
	o2, _ := sum.Open(sealed)
	if string(room) != before || e != api.OK {
		t.Fatalf("%q is now %q, %v", before, room, e)
	}
	for _, answer := range [][]byte{s1, o1} {
		answer = answer[:cap(answer)]
		for i := range answer {
			answer[i] ^= 0xff
		}
	}
	if string(room) != before || string(s2) != before[:6] || string(o2) != "hi" {
		t.Errorf("answers share memory: %q, %q, %q", room, s2, o2)
	}
	none := sum.Seal(nil)
	if o, _ := sum.Open(none); string(append(o, "abcd"...)) != "abcd" || string(none) != "\x00\x00\x00\x00" {
		t.Errorf("what is laid behind the bytes without their sum falls on the sum: %q", none)
	}
}

func TestSumsOfJoinedTexts(t *testing.T) { // P1.4
	for i := range 40 {
		for j := range 40 {
			a, b := some(i, uint32(i)), some(j, uint32(j)+99)
			got, e := sum.Join(sum.Sum(a), sum.Sum(b), int64(j))
			if got != sum.Sum(a, b) || e != api.OK {
				t.Fatalf("%d and %d bytes: %08x, %v, not %08x", i, j, got, e, sum.Sum(a, b))
			}
		}
	}
	a, b := some(5000, 1), some(api.MaxText, 2)
	if got, e := sum.Join(sum.Sum(a), sum.Sum(b), api.MaxText); got != sum.Sum(a, b) || e != api.OK {
		t.Errorf("long texts: %08x, %v, not %08x", got, e, sum.Sum(a, b))
	}
}

func TestProducts(t *testing.T) { // P1.4
	for _, a := range words() {
		for _, b := range words() {
			if sum.Mul(a, b) != sum.Mul(b, a) {
				t.Errorf("%08x, %08x: the order counts", a, b)
			}
			for _, c := range words() {
				if sum.Mul(sum.Mul(a, b), c) != sum.Mul(a, sum.Mul(b, c)) {
					t.Fatalf("%08x, %08x, %08x: it counts how they are put together", a, b, c)
				}
				if sum.Mul(a, b^c) != sum.Mul(a, b)^sum.Mul(a, c) {
					t.Fatalf("%08x, %08x, %08x: the product does not go over xor", a, b, c)
				}
			}
		}
	}
}

func TestPowersOfSums(t *testing.T) { // P1.4
	numbers := []int64{0, 1, 2, 7, 8, 31, 32, 33, 1000, math.MaxInt32, math.MaxUint32, 1 << 39, top/2 - 1}
	for _, m := range numbers {
		for _, n := range numbers {
			a, e1 := sum.Power(m)
			b, e2 := sum.Power(n)
			both, e3 := sum.Power(m + n)
			if both != sum.Mul(a, b) || e1 != api.OK || e2 != api.OK || e3 != api.OK {
				t.Errorf("the power of %d and %d: %08x, not %08x", m, n, both, sum.Mul(a, b))
			}
		}
	}
}

func TestTurnedBits(t *testing.T) { // P1.4
	turn := func(b []byte, bit int) { b[bit/8] ^= 1 << (bit % 8) }
	for _, c := range []struct{ size, step int }{{4, 1}, {5, 1}, {12, 1}, {24, 1}, {1000, 397}} {
		b := sum.Seal(some(c.size-4, uint32(c.size)))
		for first := range 8 * c.size {
			turn(b, first)
			if got, e := sum.Open(b); len(got) != 0 || e != api.ErrSum {
				t.Fatalf("%d bytes, bit %d turned: %v", c.size, first, e)
			}
			for second := first + 1; second < 8*c.size; second += c.step {
				turn(b, second)
				if got, e := sum.Open(b); len(got) != 0 || e != api.ErrSum {
					t.Fatalf("%d bytes, bits %d and %d turned: %v", c.size, first, second, e)
				}
				turn(b, second)
			}
			turn(b, first)
		}
		if _, e := sum.Open(b); e != api.OK {
			t.Fatalf("%d bytes, none turned: %v", c.size, e)
		}
	}
}
