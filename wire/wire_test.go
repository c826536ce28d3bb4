package wire_test

import (
	"bytes"
	"encoding/hex"
	"math"
	"slices"
	"strings"
	"testing"

	"antiphon/api"
	"antiphon/sum"
	"antiphon/wire"
)

const top = int64(1) << 62

// form is a number, and its bytes in hex.
type form struct {
	n    int64
	want string
}

// forms stand at each length that a number's bytes may have.
func forms() []form {
	return []form{
		{0, "00"},
		{1, "01"},
		{2, "02"},
		{127, "7f"},
		{128, "8001"},
		{129, "8101"},
		{255, "ff01"},
		{300, "ac02"},
		{1<<14 - 1, "ff7f"},
		{1 << 14, "808001"},
		{1<<21 - 1, "ffff7f"},
		{1 << 21, "80808001"},
		{1<<28 - 1, "ffffff7f"},
		{1 << 28, "8080808001"},
		{math.MaxInt32, "ffffffff07"},
		{1<<35 - 1, "ffffffff7f"},
		{1 << 35, "808080808001"},
		{1 << 42, "80808080808001"},
		{1 << 49, "8080808080808001"},
		{1<<56 - 1, "ffffffffffffff7f"},
		{1 << 56, "808080808080808001"},
		{top - 1, "ffffffffffffffff3f"},
		{top, "808080808080808040"},
	}
}

// raw makes bytes of hex, blanks in it left out.
func raw(s string) []byte {
	b, err := hex.DecodeString(strings.ReplaceAll(s, " ", ""))
	if err != nil {
		panic(err)
	}
	return b
}

// some makes n bytes that look like none of a kind, the same each time.
func some(n int, seed uint32) []byte {
	b := make([]byte, n)
	for i := range b {
		seed = seed*1664525 + 1013904223
		b[i] = byte(seed >> 24)
	}
	return b
}

func laid(t *testing.T, w *wire.Writer, want string) {
	t.Helper()
	if got := hex.EncodeToString(w.All()); got != want {
		t.Errorf("laid is %s, not %s", got, want)
	}
}

func frame(t *testing.T, b []byte) []byte {
	t.Helper()
	f, e := wire.Frame(b)
	if e != api.OK {
		t.Fatalf("a frame of %d bytes: %v", len(b), e)
	}
	return f
}

func TestWriterOfNoBytes(t *testing.T) { // P2.1
	w := wire.New()
	if w == nil || len(w.All()) != 0 {
		t.Fatal("a new writer is none, or has bytes")
	}
	if e := w.Number(); e != api.OK || len(w.All()) != 0 {
		t.Errorf("no number: %v, %x", e, w.All())
	}
	other := wire.New()
	other.Number(1)
	laid(t, w, "")
	laid(t, other, "01")
}

func TestWriterNumber(t *testing.T) { // P2.1
	all, want, numbers := wire.New(), "", []int64{}
	for _, c := range forms() {
		w := wire.New()
		if e := w.Number(c.n); e != api.OK {
			t.Errorf("Number(%d): %v", c.n, e)
		}
		laid(t, w, c.want)
		all.Number(c.n)
		want += c.want
		numbers = append(numbers, c.n)
	}
	laid(t, all, want)
	atOnce := wire.New()
	if e := atOnce.Number(numbers...); e != api.OK {
		t.Errorf("all numbers at once: %v", e)
	}
	laid(t, atOnce, want)
	atOnce.Number(3, 2)
	laid(t, atOnce, want+"0302")
}

func TestWriterNumberRefused(t *testing.T) { // P2.1
	for _, bad := range []int64{-1, -2, -300, -top, math.MinInt64, top + 1, top + 2, math.MaxInt64} {
		w := wire.New()
		w.Number(300)
		for _, l := range [][]int64{{bad}, {1, bad}, {bad, 1}, {1, bad, 2}, {bad, bad}} {
			if e := w.Number(l...); e != api.ErrArg {
				t.Errorf("Number(%v): %v", l, e)
			}
			laid(t, w, "ac02")
		}
		if e := w.Number(1); e != api.OK {
			t.Errorf("behind what was refused: %v", e)
		}
		laid(t, w, "ac0201")
	}
}

func TestWriterText(t *testing.T) { // P2.1
	for _, c := range []struct{ in, want string }{
		{"", "00"},
		{"hi", "026869"},
		{"\x00", "0100"},
		{"\xff\xfe", "02fffe"},
		{"é", "02c3a9"},
		{strings.Repeat("a", 127), "7f" + strings.Repeat("61", 127)},
		{strings.Repeat("a", 128), "8001" + strings.Repeat("61", 128)},
	} {
		w := wire.New()
		if e := w.Text(c.in); e != api.OK {
			t.Errorf("Text(%q): %v", c.in, e)
		}
		laid(t, w, c.want)
	}
	w := wire.New()
	long := strings.Repeat("x", api.MaxText)
	if e := w.Text(long); e != api.OK || string(w.All()) != "\x80\x80\x40"+long {
		t.Errorf("a text of MaxText bytes: %v, %d bytes", e, len(w.All()))
	}
}

func TestWriterTextRefused(t *testing.T) { // P2.1
	w := wire.New()
	w.Text("a")
	for _, more := range []int{1, 2, api.MaxText} {
		if e := w.Text(strings.Repeat("x", api.MaxText+more)); e != api.ErrLong {
			t.Errorf("%d bytes above MaxText: %v", more, e)
		}
		laid(t, w, "0161")
	}
	if e := w.Text("b"); e != api.OK {
		t.Errorf("behind what was refused: %v", e)
	}
	laid(t, w, "01610162")
}

func TestWriterTruth(t *testing.T) { // P2.1
	w := wire.New()
	for _, is := range []bool{true, false, false, true} {
		if e := w.Truth(is); e != api.OK {
			t.Errorf("Truth(%v): %v", is, e)
		}
	}
	laid(t, w, "01000001")
}

func TestNoWriter(t *testing.T) { // P2.1
	for _, w := range []*wire.Writer{nil, {}} {
		for i, e := range []api.Errno{
			w.Number(),
			w.Number(1),
			w.Number(-1),
			w.Text("a"),
			w.Text(strings.Repeat("x", api.MaxText+1)),
			w.Truth(true),
			w.Truth(false),
		} {
			if e != api.ErrNil {
				t.Errorf("row %d: no writer answers %v", i, e)
			}
		}
		if len(w.All()) != 0 {
			t.Errorf("no writer has laid %x", w.All())
		}
	}
}

func TestAllIsNewMemory(t *testing.T) { // P2.1
	w := wire.New()
	w.Number(1, 2)
	w.Text("hi")
	first, second := w.All(), w.All()
	for i := range first {
		first[i] = 0xee
	}
	_ = append(first, "behind it"...)
	w.Number(3)
	if hex.EncodeToString(second) != "0102026869" {
		t.Errorf("an answer became %x", second)
	}
	_ = append(second[:1], "over it"...)
	laid(t, w, "010202686903")
	numbers := []int64{4, 5, 6}
	w.Number(numbers[:2]...)
	if !slices.Equal(numbers, []int64{4, 5, 6}) {
		t.Errorf("numbers handed in became %v", numbers)
	}
}

func TestReaderNumber(t *testing.T) { // P2.2
	for _, c := range forms() {
		for _, most := range []int64{c.n, min(c.n+1, top), top, top + 1, math.MaxInt64} {
			r := wire.Read(append(raw(c.want), 9))
			if got, e := r.Number(most); got != c.n || e != api.OK || r.Left() != 1 {
				t.Errorf("%s up to %d: %d, %v, %d left", c.want, most, got, e, r.Left())
			}
			if got, e := r.Number(9); got != 9 || e != api.OK || r.Left() != 0 || r.End() != api.OK {
				t.Errorf("behind %s: %d, %v", c.want, got, e)
			}
		}
	}
}

// broken asks that a reader has this error, and goes on having it.
func broken(t *testing.T, name string, r *wire.Reader) {
	t.Helper()
	if r.Left() != 0 {
		t.Errorf("%s: %d left behind an error", name, r.Left())
	}
	for _, most := range []int64{top, 0, -1, math.MinInt64} {
		if got, e := r.Number(most); got != 0 || e != api.ErrWire {
			t.Errorf("%s: then Number(%d) is %d, %v", name, most, got, e)
		}
		if got, e := r.Text(int(most)); got != "" || e != api.ErrWire {
			t.Errorf("%s: then Text(%d) is %q, %v", name, most, got, e)
		}
	}
	if got, e := r.Truth(); got || e != api.ErrWire {
		t.Errorf("%s: then Truth is %v, %v", name, got, e)
	}
	if e := r.End(); e != api.ErrWire || r.Left() != 0 {
		t.Errorf("%s: then End is %v, %d left", name, e, r.Left())
	}
}

func TestReaderNumberRefused(t *testing.T) { // P2.2
	nine := strings.Repeat("80", 9)
	for _, c := range []struct {
		in   string
		most int64
	}{
		{"8000", 9}, // not the shortest form
		{"8000", top},
		{"8100 01", top},
		{"ff00", top},
		{"808000", top},
		{"ac8200", top},
		{strings.Repeat("80", 8) + "00", top},
		{strings.Repeat("ff", 8) + "00", top},
		{nine, top}, // more than nine bytes
		{nine + "00", top},
		{nine + "01", top},
		{strings.Repeat("ff", 9), top},
		{strings.Repeat("ff", 9) + "01", top},
		{strings.Repeat("ff", 20), math.MaxInt64},
		{"05", 4}, // above what is asked
		{"01", 0},
		{"ac02", 299},
		{"808080808080808040", top - 1},
		{"818080808080808040", top}, // above 2^62
		{"818080808080808040", math.MaxInt64},
		{"808080808080808041", math.MaxInt64},
		{"ffffffffffffffff7f", math.MaxInt64},
		{"80808080808080807f", top},
	} {
		for _, behind := range []string{"", "01", "0101"} {
			r := wire.Read(raw(c.in + behind))
			if got, e := r.Number(c.most); got != 0 || e != api.ErrWire {
				t.Errorf("%q up to %d: %d, %v", c.in, c.most, got, e)
			}
			broken(t, c.in, r)
		}
	}
}

func TestReaderNumberCutOff(t *testing.T) { // P2.2
	for _, c := range forms() {
		whole := raw(c.want)
		for n := range whole {
			r := wire.Read(whole[:n])
			if got, e := r.Number(top); got != 0 || e != api.ErrWire {
				t.Errorf("%d bytes of %s: %d, %v", n, c.want, got, e)
			}
			broken(t, c.want, r)
		}
	}
}

func TestReaderMostBelow0(t *testing.T) { // P2.2
	for _, most := range []int64{-1, -2, -top, math.MinInt64} {
		r := wire.Read(raw("05 02 68 69 01"))
		refused := func() {
			t.Helper()
			left := r.Left()
			if got, e := r.Number(most); got != 0 || e != api.ErrArg {
				t.Errorf("Number(%d) is %d, %v", most, got, e)
			}
			if got, e := r.Text(int(most)); got != "" || e != api.ErrArg {
				t.Errorf("Text(%d) is %q, %v", most, got, e)
			}
			if r.Left() != left {
				t.Errorf("%d left, not %d", r.Left(), left)
			}
		}
		refused()
		if got, e := r.Number(5); got != 5 || e != api.OK {
			t.Errorf("then %d, %v", got, e)
		}
		refused()
		if got, e := r.Text(2); got != "hi" || e != api.OK {
			t.Errorf("then %q, %v", got, e)
		}
		refused()
		if got, e := r.Truth(); !got || e != api.OK {
			t.Errorf("then %v, %v", got, e)
		}
		refused()
		if e := r.End(); e != api.OK {
			t.Errorf("at the end %v", e)
		}
	}
}

func TestReaderText(t *testing.T) { // P2.2
	for _, c := range []struct {
		in, want string
		most     int
	}{
		{"00", "", 0},
		{"00", "", math.MaxInt},
		{"026869", "hi", 2},
		{"026869", "hi", 3},
		{"026869", "hi", math.MaxInt},
		{"02fffe", "\xff\xfe", 2},
		{"0180", "\x80", 1},
		{"8001" + strings.Repeat("61", 128), strings.Repeat("a", 128), 128},
	} {
		r := wire.Read(append(raw(c.in), 7, 7))
		if got, e := r.Text(c.most); got != c.want || e != api.OK || r.Left() != 2 {
			t.Errorf("%s up to %d: %q, %v, %d left", c.in, c.most, got, e, r.Left())
		}
	}
	long := strings.Repeat("x", api.MaxText)
	r := wire.Read([]byte("\x80\x80\x40" + long))
	if got, e := r.Text(api.MaxText); got != long || e != api.OK || r.End() != api.OK {
		t.Errorf("a text of MaxText bytes: %d, %v", len(got), e)
	}
}

func TestReaderTextRefused(t *testing.T) { // P2.2
	for _, c := range []struct {
		in   string
		most int
	}{
		{"", 9},
		{"80", 9},
		{"01", 9}, // cut off
		{"0268", 9},
		{"0a" + strings.Repeat("61", 9), 99},
		{"808040", api.MaxText},
		{"808080808080808040", math.MaxInt},
		{"026869", 1}, // above what is asked
		{"026869", 0},
		{"0161", 0},
		{"8001" + strings.Repeat("61", 128), 127},
		{"8000", 9}, // no number of bytes
		{"8100 61", 9},
		{strings.Repeat("80", 9) + "01", math.MaxInt},
		{"818080808080808040", math.MaxInt},
		{"ffffffffffffffff7f", math.MaxInt},
	} {
		r := wire.Read(raw(c.in))
		if got, e := r.Text(c.most); got != "" || e != api.ErrWire {
			t.Errorf("%q up to %d: %q, %v", c.in, c.most, got, e)
		}
		broken(t, c.in, r)
	}
}

func TestReaderTruth(t *testing.T) { // P2.2
	r := wire.Read(raw("01 00 00 01"))
	for i, want := range []bool{true, false, false, true} {
		if got, e := r.Truth(); got != want || e != api.OK || r.Left() != 3-i {
			t.Errorf("truth %d: %v, %v, %d left", i, got, e, r.Left())
		}
	}
	if got, e := r.Truth(); got || e != api.ErrWire {
		t.Errorf("behind the last one: %v, %v", got, e)
	}
	for _, bad := range []string{"", "02", "03", "7f", "80", "81", "ff", "8000", "8100", "8001", "ff00", "0201"} {
		r := wire.Read(raw(bad))
		if got, e := r.Truth(); got || e != api.ErrWire {
			t.Errorf("truth of %q: %v, %v", bad, got, e)
		}
		broken(t, bad, r)
	}
}

func TestReaderEnd(t *testing.T) { // P2.2
	for _, none := range [][]byte{nil, {}} {
		r := wire.Read(none)
		if r == nil || r.Left() != 0 || r.End() != api.OK || r.End() != api.OK {
			t.Fatal("a reader of no bytes is none, or is not at its end")
		}
		if got, e := r.Number(-1); got != 0 || e != api.ErrArg {
			t.Errorf("of no bytes Number(-1) is %d, %v", got, e)
		}
		if got, e := r.Number(0); got != 0 || e != api.ErrWire {
			t.Errorf("of no bytes Number(0) is %d, %v", got, e)
		}
		broken(t, "no bytes", r)
	}
	r := wire.Read(raw("01 02"))
	if r.Left() != 2 {
		t.Errorf("%d left of two", r.Left())
	}
	r.Number(9)
	if e := r.End(); e != api.ErrWire {
		t.Errorf("a byte is left: %v", e)
	}
	broken(t, "a byte left", r)
}

func TestNoReader(t *testing.T) { // P2.2
	for _, r := range []*wire.Reader{nil, {}} {
		for _, most := range []int64{0, 9, top, -1} {
			if got, e := r.Number(most); got != 0 || e != api.ErrNil {
				t.Errorf("no reader: Number(%d) is %d, %v", most, got, e)
			}
			if got, e := r.Text(int(most)); got != "" || e != api.ErrNil {
				t.Errorf("no reader: Text(%d) is %q, %v", most, got, e)
			}
		}
		if got, e := r.Truth(); got || e != api.ErrNil {
			t.Errorf("no reader: Truth is %v, %v", got, e)
		}
		if r.Left() != 0 || r.End() != api.ErrNil {
			t.Errorf("no reader: %d left, %v", r.Left(), r.End())
		}
	}
}

func TestReaderKeepsNothing(t *testing.T) { // P2.2
	b := raw("05 02 68 69 01")
	whole := append(bytes.Clone(b), "spare room"...)
	in := whole[:len(b)]
	r, other := wire.Read(in), wire.Read(in)
	other.Number(9)
	other.Text(9)
	if other.End(); !bytes.Equal(in, b) || string(whole[len(b):]) != "spare room" {
		t.Errorf("reading changed the bytes: %x", whole)
	}
	clear(whole)
	if n, e := r.Number(9); n != 5 || e != api.OK {
		t.Errorf("a reader hangs on the bytes handed in: %d, %v", n, e)
	}
	if s, e := r.Text(9); s != "hi" || e != api.OK || r.Left() != 1 {
		t.Errorf("a reader hangs on the bytes handed in: %q, %v", s, e)
	}
}

func TestFrame(t *testing.T) { // P2.3
	for _, c := range []struct{ in, want string }{
		{"", "04 00000000"},
		{"a", "05 61 43beb7e8"},
		{"123456789", "0d 313233343536373839 2639f4cb"},
	} {
		if got := frame(t, []byte(c.in)); !bytes.Equal(got, raw(c.want)) {
			t.Errorf("the frame of %q is %x, not %s", c.in, got, c.want)
		}
	}
	if got := frame(t, nil); !bytes.Equal(got, raw("0400000000")) {
		t.Errorf("the frame of nothing is %x", got)
	}
	for _, c := range []struct {
		size   int
		number string
	}{{123, "7f"}, {124, "8001"}, {4092, "8020"}, {api.MaxFrame, "8420"}} {
		b := some(c.size, 1)
		if got := frame(t, b); !bytes.Equal(got, append(raw(c.number), sum.Seal(b)...)) {
			t.Errorf("the frame of %d bytes begins with %x", c.size, got[:3])
		}
	}
	for _, n := range []int{api.MaxFrame + 1, api.MaxFrame + 2, 2 * api.MaxFrame, api.MaxText} {
		if got, e := wire.Frame(make([]byte, n)); len(got) != 0 || e != api.ErrLong {
			t.Errorf("a frame of %d bytes: %d, %v", n, len(got), e)
		}
	}
}

func TestSplit(t *testing.T) { // P2.3
	for _, n := range []int{0, 1, 2, 123, 124, 300, 4092, api.MaxFrame - 1, api.MaxFrame} {
		b := some(n, uint32(n))
		f := frame(t, b)
		for _, behind := range []string{"", "\x00", "\x80", "rest", string(f)} {
			got, size, e := wire.Split([]byte(string(f) + behind))
			if !bytes.Equal(got, b) || size != len(f) || e != api.OK {
				t.Errorf("%d bytes, %d behind: %d, %d, %v", n, len(behind), len(got), size, e)
			}
		}
	}
}

func TestSplitNoneYet(t *testing.T) { // P2.3
	for _, c := range []string{
		"", "04", "09", "7f", "0400", "04000000", "05 61 43beb7", "05 00000000",
		"80", "81", "ff", "8080", "ffff", "808080", strings.Repeat("80", 8), strings.Repeat("ff", 8),
		"8020", "8420", "8420" + strings.Repeat("00", api.MaxFrame+3),
	} {
		if got, n, e := wire.Split(raw(c)); len(got) != 0 || n != 0 || e != api.OK {
			t.Errorf("Split(%.40s) is %x, %d, %v", c, got, n, e)
		}
	}
	for _, size := range []int{0, 3, 200} {
		f := frame(t, some(size, 5))
		for n := range f {
			if got, n, e := wire.Split(f[:n]); len(got) != 0 || n != 0 || e != api.OK {
				t.Errorf("%d of %d bytes: %x, %d, %v", n, len(f), got, n, e)
			}
		}
	}
}

func TestSplitRefused(t *testing.T) { // P2.3
	for _, c := range []struct {
		in   string
		want api.Errno
	}{
		{"00", api.ErrFrame}, // below 4
		{"01", api.ErrFrame},
		{"03", api.ErrFrame},
		{"03 000000", api.ErrFrame},
		{"00 00000000", api.ErrFrame},
		{"8520", api.ErrFrame}, // above MaxFrame and 4
		{"8520" + strings.Repeat("00", api.MaxFrame+5), api.ErrFrame},
		{"ff7f", api.ErrFrame},
		{"808001", api.ErrFrame},
		{"808080808080808040", api.ErrFrame},
		{"ffffffffffffffff7f", api.ErrFrame},
		{"8000", api.ErrFrame}, // not the shortest form
		{"8400 00000000", api.ErrFrame},
		{"8900", api.ErrFrame},
		{"848000 00000000", api.ErrFrame},
		{"84a000", api.ErrFrame},
		{strings.Repeat("80", 8) + "00", api.ErrFrame},
		{strings.Repeat("80", 9), api.ErrFrame}, // more than nine bytes
		{strings.Repeat("ff", 9), api.ErrFrame},
		{strings.Repeat("80", 9) + "01", api.ErrFrame},
		{strings.Repeat("84", 12), api.ErrFrame},
		{"04 00000001", api.ErrSum},
		{"04 01000000", api.ErrSum},
		{"05 62 43beb7e8", api.ErrSum},
		{"05 61 e8b7be43", api.ErrSum},
		{"05 61 43beb7e9", api.ErrSum},
		{"06 61 43beb7e800", api.ErrSum},
		{"04 43beb7e8 61", api.ErrSum},
	} {
		if got, n, e := wire.Split(raw(c.in)); len(got) != 0 || n != 0 || e != c.want {
			t.Errorf("Split(%.40s) is %x, %d, %v, not %v", c.in, got, n, e, c.want)
		}
	}
}

func TestFramesAreNewMemory(t *testing.T) { // P2.3
	whole := append(frame(t, []byte("hi")), "spare room"...)
	before := string(whole)
	in := whole[:7]
	f, _ := wire.Frame(in[1:3])
	all := wire.Frames(in)
	b1, _, _ := wire.Split(in)
	b2, _, _ := wire.Split(in)
	var told [][]byte
	for range 2 {
		for _, body := range all {
			told = append(told, body)
		}
	}
	if string(whole) != before || len(told) != 2 || string(f) != before[:7] {
		t.Fatalf("%q is now %q, %d frames", before, whole, len(told))
	}
	for _, b := range [][]byte{f, b1, told[0]} {
		_ = append(b, "more than there is room for"...)
		b = b[:cap(b)]
		for i := range b {
			b[i] = 0xee
		}
	}
	if string(whole) != before || string(b2) != "hi" || string(told[1]) != "hi" {
		t.Errorf("answers share memory: %q, %q, %q", whole, b2, told[1])
	}
	clear(whole)
	gone(t, whole, nil, nil)
	n := 0
	for end, body := range all {
		if n++; end != 7 || string(body) != "hi" {
			t.Errorf("frames hang on the bytes handed in: %d, %q", end, body)
		}
	}
	if n != 1 {
		t.Errorf("frames hang on the bytes handed in: now there are %d", n)
	}
}

// stream is frames one behind the other, their bytes, and where each ends.
func stream(t *testing.T) (all []byte, bodies [][]byte, ends []int) {
	for i, n := range []int{0, 5, 0, 124, 1, 130, 2} {
		bodies = append(bodies, some(n, uint32(i)))
		all = append(all, frame(t, bodies[i])...)
		ends = append(ends, len(all))
	}
	return all, bodies, ends
}

// gone asks that going over these frames tells the first few of the stream, and no more.
func gone(t *testing.T, b []byte, bodies [][]byte, ends []int) {
	t.Helper()
	n := 0
	for end, body := range wire.Frames(b) {
		if n == len(bodies) {
			t.Fatalf("one frame too many, up to %d", end)
		}
		if end != ends[n] || !bytes.Equal(body, bodies[n]) {
			t.Fatalf("frame %d: %x up to %d, not %x up to %d", n, body, end, bodies[n], ends[n])
		}
		n++
	}
	if n != len(bodies) {
		t.Fatalf("%d frames, not %d", n, len(bodies))
	}
}

func TestFrames(t *testing.T) { // P2.3
	for _, none := range [][]byte{nil, {}, raw("03"), raw("09"), raw("8000"), raw("0401000000")} {
		gone(t, none, nil, nil)
	}
	all, bodies, ends := stream(t)
	gone(t, all, bodies, ends)
	for _, bad := range []string{"03", "8000", "0401000000", "0401000000" + "0400000000", "8520", "80", "09"} {
		gone(t, append(bytes.Clone(all), raw(bad)...), bodies, ends)
		gone(t, append(raw(bad), all...), nil, nil)
	}
	for i := range ends {
		torn := bytes.Clone(all)
		torn[ends[i]-1] ^= 1
		gone(t, torn, bodies[:i], ends[:i])
	}
	seq := wire.Frames(all)
	for left := range len(bodies) + 1 {
		n := 0
		for end, body := range seq {
			if n == left {
				break
			}
			if end != ends[n] || !bytes.Equal(body, bodies[n]) {
				t.Fatalf("gone over again: frame %d is %x up to %d", n, body, end)
			}
			n++
		}
		if n != left {
			t.Fatalf("gone over again: %d frames, not %d", n, left)
		}
	}
}

func TestWhatGoesOverFramesGivesUpItself(t *testing.T) { // P2.3
	all, _, _ := stream(t)
	defer func() {
		if why := recover(); why != "mine" {
			t.Errorf("what gave up in the loop came out as %v", why)
		}
	}()
	for range wire.Frames(all) {
		panic("mine")
	}
}

// part is one thing that is laid, and read.
type part struct {
	kind int
	n    int64
	s    string
}

// parts are such things, picked by a seed.
func parts(seed uint32) []part {
	var l []part
	for i, c := range some(40, seed) {
		p := part{kind: int(c) % 3}
		switch p.kind {
		case 0:
			p.n = forms()[int(c)%len(forms())].n
		case 1:
			p.s = string(some(int(c), seed+uint32(i)))
		case 2:
			p.n = int64(c >> 7)
		}
		l = append(l, p)
	}
	return l
}

func TestWhatWasLaidIsRead(t *testing.T) { // P2.4
	for seed := range uint32(50) {
		w, l := wire.New(), parts(seed)
		for _, p := range l {
			e := api.OK
			switch p.kind {
			case 0:
				e = w.Number(p.n)
			case 1:
				e = w.Text(p.s)
			case 2:
				e = w.Truth(p.n == 1)
			}
			if e != api.OK {
				t.Fatalf("%v can't be laid: %v", p, e)
			}
		}
		r := wire.Read(w.All())
		for _, p := range l {
			got, e := part{kind: p.kind}, api.OK
			switch p.kind {
			case 0:
				got.n, e = r.Number(p.n)
			case 1:
				got.s, e = r.Text(len(p.s))
			case 2:
				is := false
				if is, e = r.Truth(); is {
					got.n = 1
				}
			}
			if got != p || e != api.OK {
				t.Fatalf("%v is read as %v, %v", p, got, e)
			}
		}
		if r.Left() != 0 || r.End() != api.OK {
			t.Fatalf("%d left, %v", r.Left(), r.End())
		}
	}
}

func TestFramesBytesAreSplit(t *testing.T) { // P2.4
	all, bodies, ends := stream(t)
	left := all
	for i, want := range bodies {
		got, n, e := wire.Split(left)
		if !bytes.Equal(got, want) || e != api.OK || n != ends[i]-len(all)+len(left) {
			t.Fatalf("frame %d: %x, %d, %v", i, got, n, e)
		}
		left = left[n:]
	}
	if len(left) != 0 {
		t.Errorf("%d bytes are left", len(left))
	}
	for n := range len(all) + 1 {
		whole := 0
		for whole < len(ends) && ends[whole] <= n {
			whole++
		}
		gone(t, all[:n], bodies[:whole], ends[:whole])
	}
}

func FuzzRead(f *testing.F) { // P2.2: whatever the bytes: all calls end, and what is read is laid as it was
	f.Add(raw("ac02 026869 01"), int64(300))
	f.Add(raw("8000"), int64(-1))
	f.Fuzz(func(t *testing.T, b []byte, most int64) {
		r, w := wire.Read(b), wire.New()
		for r.Left() > 0 {
			if n, e := r.Number(most); e == api.OK {
				w.Number(n)
			}
			if s, e := r.Text(int(most)); e == api.OK {
				w.Text(s)
			} else if e == api.ErrArg {
				break
			}
		}
		if got := w.All(); !bytes.HasPrefix(b, got) {
			t.Errorf("%x was read, and laid as %x", b, got)
		}
	})
}

func FuzzSplit(f *testing.F) { // P2.3: whatever the bytes: a frame that is split is one that is framed
	f.Add(raw("0400000000 05 61 43beb7e8"))
	f.Add(raw("8420"))
	f.Fuzz(func(t *testing.T, b []byte) {
		at := 0
		for end, body := range wire.Frames(b) {
			again, e := wire.Frame(body)
			if e != api.OK || !bytes.Equal(again, b[at:end]) {
				t.Errorf("%x is split, and framed as %x, %v", b[at:end], again, e)
			}
			at = end
		}
		if body, n, e := wire.Split(b[at:]); len(body) != 0 || n != 0 {
			t.Errorf("behind the last frame: %x, %d, %v", body, n, e)
		}
	})
}
