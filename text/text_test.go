package text_test

import (
	"encoding/hex"
	"math"
	"slices"
	"strconv"
	"strings"
	"testing"

	"antiphon/api"
	"antiphon/text"
)

const fffd = 0xfffd

// sign is one of a text: where it begins, how many bytes it has, whether it is a broken byte.
type sign struct {
	at, size int
	r        rune
	broken   bool
}

// signs goes over a text just as the document tells it: form by form, byte by byte.
func signs(s string) []sign {
	var l []sign
	for at := 0; at < len(s); {
		next := ahead(s[at:])
		next.at = at
		l = append(l, next)
		at += next.size
	}
	return l
}

func ahead(s string) sign {
	for _, form := range []struct {
		size        int
		lead, least rune
		most        rune
	}{
		{1, 0x00, 0, 0x7f},
		{2, 0xc0, 0x80, 0x7ff},
		{3, 0xe0, 0x800, 0xffff},
		{4, 0xf0, 0x10000, 0x10ffff},
	} {
		free := []rune{0, 0x7f, 0x1f, 0x0f, 0x07}[form.size]
		if len(s) < form.size || rune(s[0])&^free != form.lead {
			continue
		}
		r, whole := rune(s[0])&free, true
		for _, c := range []byte(s[1:form.size]) {
			whole = whole && c>>6 == 2
			r = r<<6 | rune(c&63)
		}
		if whole && form.least <= r && r <= form.most && (r < 0xd800 || r > 0xdfff) {
			return sign{size: form.size, r: r}
		}
	}
	return sign{size: 1, r: fffd, broken: true}
}

// wholes are texts without a broken byte, at each edge of a sign's forms.
func wholes() []string {
	return []string{
		"", " ", "  ", "a", "Z", "@", "_", "\x00", "\x1f", "\x7f", "hi there", "A to Z, a to z, 0 to 9",
		"\u0080", "\u009f", "\u00a0", "é", "\u07ff", "\u0800", "€", "\ud7ff", "\ue000", "\ufffd", "\uffff",
		"\U00010000", "😀", "\U0010ffff", "grüße an 北京 😀", " \u00a0 ", "\u0301e", "\u200b",
	}
}

// brokens are texts with at least one broken byte.
func brokens() []string {
	return []string{
		"\x80", "\xbf", "\xc0", "\xc1", "\xf5", "\xf8", "\xfe", "\xff", "a\xff", "\xffa", "a\xffb", " \xff ",
		"\xc0\x80", "\xc1\xbf", "\xe0\x80\x80", "\xe0\x9f\xbf", "\xf0\x80\x80\x80", "\xf0\x8f\xbf\xbf", // not the shortest
		"\xf8\x88\x80\x80\x80", "\xfc\x84\x80\x80\x80\x80",
		"\xed\xa0\x80", "\xed\xad\xbf", "\xed\xae\x80", "\xed\xbf\xbf", "\xed\xa0\xbd\xed\xb8\x80", // d800 to dfff
		"\xf4\x90\x80\x80", "\xf5\x80\x80\x80", "\xf7\xbf\xbf\xbf", // above 10ffff
		"\xc3", "\xe2", "\xe2\x82", "\xf0", "\xf0\x9f", "\xf0\x9f\x98", // cut off
		"\xc3 ", "\xe2\x82a", "\xf0\x9f\x98\xc3\xa9", "\xe2\xe2\x82\xac", "\xc3\xa9\x80", "\xe2\x82\xac\xac", "\xf0\x9f\x98\x80\x80",
		"\xef\xbf\xbd\xef\xbf", "\xc3\xc3\xa9\xc3",
	}
}

// mixed are texts put together of pieces that are picked by a seed.
func mixed() []string {
	pieces := []string{
		"a", "bc", "Z", "9", "_", " ", " ", "  ", "@", "@", "@a", "é", "€", "😀", "\xff", "\xe2\x82", "\xed\xa0\x80",
		"\"", "\\", "\\x", "\\\"", "\t", "\x7f", "\u0085", "\ufffd", "abcdefghijklmnop", "-",
	}
	var l []string
	seed := uint32(3)
	for n := range 300 {
		s := ""
		for range n % 40 {
			seed = seed*1664525 + 1013904223
			s += pieces[int(seed>>16)%len(pieces)]
		}
		l = append(l, s)
	}
	return l
}

func all() []string { return slices.Concat(wholes(), brokens(), mixed()) }

// gone asks that going over a text tells the first few of these signs; then it leaves.
func gone(t *testing.T, s string, want []sign, few int) {
	t.Helper()
	n := 0
	for at, r := range text.Each(s) {
		if n == len(want) {
			t.Fatalf("%q: one sign too many, at %d", s, at)
		}
		if at != want[n].at || r != want[n].r {
			t.Fatalf("%q: sign %d is %x at %d, not %x at %d", s, n, r, at, want[n].r, want[n].at)
		}
		if n++; n == few {
			break
		}
	}
	if n != few {
		t.Fatalf("%q: %d signs, not %d", s, n, few)
	}
}

func TestEach(t *testing.T) { // P3.1
	for _, c := range []struct {
		in   string
		want []sign
	}{
		{"", nil},
		{"a", []sign{{at: 0, r: 'a'}}},
		{"\x00", []sign{{at: 0, r: 0}}},
		{"aé€😀b", []sign{{at: 0, r: 'a'}, {at: 1, r: 0xe9}, {at: 3, r: 0x20ac}, {at: 6, r: 0x1f600}, {at: 10, r: 'b'}}},
		{"\ufffda", []sign{{at: 0, r: fffd}, {at: 3, r: 'a'}}},
		{"\x7f\u0080", []sign{{at: 0, r: 0x7f}, {at: 1, r: 0x80}}},
		{"\U0010ffff", []sign{{at: 0, r: 0x10ffff}}},
		{"\xff", []sign{{at: 0, r: fffd}}},
		{"a\xffb", []sign{{at: 0, r: 'a'}, {at: 1, r: fffd}, {at: 2, r: 'b'}}},
		{"\xc0\x80", []sign{{at: 0, r: fffd}, {at: 1, r: fffd}}},
		{"\xed\xa0\x80", []sign{{at: 0, r: fffd}, {at: 1, r: fffd}, {at: 2, r: fffd}}},
		{"\xf4\x90\x80\x80", []sign{{at: 0, r: fffd}, {at: 1, r: fffd}, {at: 2, r: fffd}, {at: 3, r: fffd}}},
		{"\xe2\x82", []sign{{at: 0, r: fffd}, {at: 1, r: fffd}}},
		{"\xe2\x82é", []sign{{at: 0, r: fffd}, {at: 1, r: fffd}, {at: 2, r: 0xe9}}},
	} {
		gone(t, c.in, c.want, len(c.want))
	}
	for _, s := range all() {
		want := signs(s)
		gone(t, s, want, len(want))
	}
	for _, s := range brokens() {
		if !slices.ContainsFunc(signs(s), func(g sign) bool { return g.broken }) {
			t.Errorf("%q has no broken byte", s)
		}
	}
}

func TestEachOfAllShortBytes(t *testing.T) { // P3.1
	for n := range 1 << 16 {
		s := string([]byte{byte(n >> 8), byte(n)})
		want := signs(s)
		gone(t, s, want, len(want))
		for _, more := range []string{"\x80", "\xbf\x80", "\x80\xbf"} {
			want := signs(s + more)
			gone(t, s+more, want, len(want))
		}
	}
}

func TestEachIsLeftAndGoneOverAgain(t *testing.T) { // P3.1
	s := "aé\xff€ 😀"
	want, seq := signs(s), text.Each(s)
	for few := 1; few <= len(want); few++ {
		gone(t, s, want, few)
		n := 0
		for at, r := range seq {
			if at != want[n].at || r != want[n].r {
				t.Fatalf("gone over again: sign %d is %x at %d", n, r, at)
			}
			if n++; n == few {
				break
			}
		}
		if n != few {
			t.Fatalf("gone over again: %d signs, not %d", n, few)
		}
	}
	within := 0
	for range seq {
		for range seq {
			within++
		}
	}
	if within != len(want)*len(want) {
		t.Errorf("gone over within itself: %d signs, not %d", within, len(want)*len(want))
	}
}

func TestLen(t *testing.T) { // P3.1
	for _, c := range []struct {
		in   string
		want int
	}{
		{"", 0}, {"a", 1}, {"hi there", 8}, {"é", 1}, {"€", 1}, {"😀", 1}, {"\ufffd", 1}, {"aé€😀", 4}, {"\x00\x00", 2},
		{"\xff", 1}, {"\xff\xff", 2}, {"\xe2\x82", 2}, {"\xe2\x82\xac", 1}, {"\xed\xa0\x80", 3}, {"\xf4\x90\x80\x80", 4}, {"\u0301e", 2},
	} {
		if got := text.Len(c.in); got != c.want {
			t.Errorf("Len(%q) = %d, not %d", c.in, got, c.want)
		}
	}
	for _, s := range all() {
		if got := text.Len(s); got != len(signs(s)) {
			t.Errorf("Len(%q) = %d, not %d", s, got, len(signs(s)))
		}
	}
}

func TestCut(t *testing.T) { // P3.1
	for _, c := range []struct {
		in   string
		n    int
		want string
	}{
		{"", 0, ""}, {"", 1, ""}, {"", -1, ""},
		{"a", -1, ""}, {"a", 0, ""}, {"a", 1, "a"}, {"a", 2, "a"},
		{"hi there", 2, "hi"}, {"hi there", 3, "hi "}, {"hi there", 7, "hi ther"}, {"hi there", 8, "hi there"}, {"hi there", 9, "hi there"},
		{"aé€😀b", 1, "a"}, {"aé€😀b", 2, "aé"}, {"aé€😀b", 3, "aé€"}, {"aé€😀b", 4, "aé€😀"}, {"aé€😀b", 5, "aé€😀b"},
		{"\xffa", 1, "\xff"}, {"\xe2\x82a", 1, "\xe2"}, {"\xe2\x82a", 2, "\xe2\x82"}, {"\xe2\x82\xaca", 1, "€"},
		{"hi", math.MinInt, ""}, {"hi", -7, ""}, {"hi", math.MaxInt, "hi"}, {"", math.MinInt, ""}, {"", math.MaxInt, ""},
	} {
		if got := text.Cut(c.in, c.n); got != c.want {
			t.Errorf("Cut(%q, %d) = %q, not %q", c.in, c.n, got, c.want)
		}
	}
	for _, s := range all() {
		l := signs(s)
		for n, g := range l {
			if got := text.Cut(s, n); got != s[:g.at] {
				t.Errorf("Cut(%q, %d) = %q, not %q", s, n, got, s[:g.at])
			}
		}
		for _, n := range []int{len(l), len(l) + 1, math.MaxInt} {
			if got := text.Cut(s, n); got != s {
				t.Errorf("Cut(%q, %d) = %q", s, n, got)
			}
		}
	}
}

func TestFold(t *testing.T) { // P3.1
	for _, c := range []struct{ in, want string }{
		{"", ""},
		{"ABCDEFGHIJKLMNOPQRSTUVWXYZ", "abcdefghijklmnopqrstuvwxyz"},
		{"Hi There 42", "hi there 42"},
		{"@AZ[`az{", "@az[`az{"},
		{"ÉÄß ΑΩ ЖѢ \u212a \u0130 \u017f \uff21", "ÉÄß ΑΩ ЖѢ \u212a \u0130 \u017f \uff21"},
		{"A\xffB\xe2\x82C\xed\xa0\x80", "a\xffb\xe2\x82c\xed\xa0\x80"},
		{"\xc3A\ufffd", "\xc3a\ufffd"},
	} {
		if got := text.Fold(c.in); got != c.want {
			t.Errorf("Fold(%q) = %q, not %q", c.in, got, c.want)
		}
	}
	for c := range 256 {
		want := byte(c)
		if c >= 'A' && c <= 'Z' {
			want += 32
		}
		if got := text.Fold(string([]byte{byte(c)})); got != string([]byte{want}) {
			t.Errorf("Fold of byte %d = %q", c, got)
		}
	}
}

func TestCheck(t *testing.T) { // P3.2
	most := strings.Repeat("a", api.MaxSay)
	for _, c := range []struct {
		in   string
		want api.Errno
	}{
		{"hi there", api.OK}, {"a", api.OK}, {"~", api.OK}, {"!", api.OK}, {"a  b", api.OK}, {"\"\\@", api.OK},
		{"é", api.OK}, {"\u00a0", api.OK}, {"\u00a0a\u00a0", api.OK}, {"\u2003", api.OK}, {"\u2028", api.OK}, {"\u0301", api.OK},
		{"\ufffd", api.OK}, {"a\ufffdb", api.OK}, {"\uffff", api.OK}, {"\ud7ff\ue000", api.OK}, {"\U0010ffff", api.OK}, {"😀", api.OK},
		{most, api.OK}, {strings.Repeat("é", api.MaxSay/2), api.OK},
		{"", api.ErrBlank}, {" ", api.ErrBlank}, {"  ", api.ErrBlank}, {" a", api.ErrBlank}, {"a ", api.ErrBlank}, {" a ", api.ErrBlank}, {"  a", api.ErrBlank}, {"a  ", api.ErrBlank},
		{"\t", api.ErrSign}, {"a\nb", api.ErrSign}, {"\x00", api.ErrSign}, {"a\x00", api.ErrSign}, {"\x1f", api.ErrSign}, {"\x7f", api.ErrSign},
		{"\u0080", api.ErrSign}, {"a\u0085b", api.ErrSign}, {"\u009f", api.ErrSign}, {"a\u009f", api.ErrSign},
		{most + "a", api.ErrLong}, {strings.Repeat("é", api.MaxSay/2) + "a", api.ErrLong}, {strings.Repeat("a", api.MaxText+1), api.ErrLong},
	} {
		if got := text.Check(c.in); got != c.want {
			t.Errorf("Check(%.40q) of %d bytes: %v, not %v", c.in, len(c.in), got, c.want)
		}
	}
	for _, s := range brokens() {
		for _, in := range []string{s, s + "a", "a" + s} {
			if got := text.Check(in); got != api.ErrBroken {
				t.Errorf("Check(%q): %v", in, got)
			}
		}
	}
}

func TestCheckOfEachSign(t *testing.T) { // P3.2
	for r := rune(0); r <= 0x10ffff; r++ {
		want := api.OK
		switch {
		case r >= 0xd800 && r <= 0xdfff:
			continue
		case r < 32 || r >= 127 && r <= 159:
			want = api.ErrSign
		case r == 32:
			want = api.ErrBlank
		}
		if got := text.Check(string(r)); got != want {
			t.Fatalf("Check of the sign %x: %v, not %v", r, got, want)
		}
	}
}

func TestCheckNamesTheFirstError(t *testing.T) { // P3.2
	long := strings.Repeat("a", api.MaxSay)
	for _, c := range []struct {
		in   string
		want api.Errno
	}{
		{" \t\xff" + long, api.ErrLong}, {long + " ", api.ErrLong}, {long + "\t", api.ErrLong}, {long + "\xff", api.ErrLong},
		{"\t\xff", api.ErrBroken}, {"\xff\t", api.ErrBroken}, {" \xff", api.ErrBroken}, {"\xff ", api.ErrBroken}, {" \t\xff ", api.ErrBroken},
		{" \t", api.ErrSign}, {"\t ", api.ErrSign}, {" \u0085 ", api.ErrSign},
		{long[:api.MaxSay-1] + "\xff", api.ErrBroken}, {long[:api.MaxSay-1] + "\t", api.ErrSign}, {long[:api.MaxSay-1] + " ", api.ErrBlank},
	} {
		if got := text.Check(c.in); got != c.want {
			t.Errorf("Check(%.40q): %v, not %v", c.in, got, c.want)
		}
	}
}

func TestNamed(t *testing.T) { // P3.2
	name := "abcdefghijklmnop"
	for _, c := range []struct{ in, want string }{
		{"", ""}, {"ann", ""}, {"@", ""}, {"@ ", ""}, {"a @", ""}, {"@@", ""}, {"@ ann", ""}, {"@-ann", ""},
		{"@ann hi @bo, x@cy @ann", "ann bo"},
		{"@ann", "ann"}, {"hi @ann", "ann"}, {"hi @ann!", "ann"}, {"(@ann)", "ann"}, {"@a", "a"}, {"@0", "0"}, {"@_", "_"}, {"@__", "__"}, {"@7up_z", "7up_z"},
		{"x@ann", ""}, {"9@ann", ""}, {"_@ann", ""}, {"z@ann", ""}, {"a@ann", ""}, {"0@ann", ""},
		{"X@ann", "ann"}, {"-@ann", "ann"}, {"é@ann", "ann"}, {"\xff@ann", "ann"}, {"\xe2\x82@ann", "ann"}, {"`@ann", "ann"}, {"{@ann", "ann"}, {"/@ann", "ann"}, {":@ann", "ann"},
		{"@@ann", "ann"}, {"@@@ann", "ann"}, {"x@@ann", "ann"}, {"@ann@bo", "ann"}, {"@ann@@bo", "ann bo"}, {"@ann @bo@cy@dee", "ann bo"}, {"@ann-@bo", "ann bo"},
		{"@Ann", ""}, {"@ANN", ""}, {"@annB", "ann"}, {"@anné", "ann"}, {"@ann\xff", "ann"}, {"@\xffann", ""}, {"@éann", ""}, {"@an-n", "an"}, {"@ann.", "ann"}, {"@`", ""}, {"@{", ""}, {"@/", ""}, {"@:", ""},
		{"@ann @ann", "ann"}, {"@bo @ann @bo @ann @cy", "bo ann cy"}, {"@b @a @c @a @b", "b a c"}, {"@ann @an @anna", "ann an anna"},
		{"@" + name, name}, {"@" + name + "q", ""}, {"@" + name + "q @bo", "bo"}, {"@" + name + "Q", name}, {"@" + name + "é", name}, {"@" + name + "@bo", name}, {"@" + name + "q@bo", ""},
		{"@" + strings.Repeat("x", 500) + " @ann", "ann"},
	} {
		got, e := text.Named(c.in)
		if !slices.Equal(got, strings.Fields(c.want)) || e != api.OK {
			t.Errorf("Named(%.60q) = %q, %v, not %q", c.in, got, e, c.want)
		}
	}
}

// named tells who is named sign by sign, as the document does.
func named(s string) []string {
	of := func(g sign) bool { return strings.ContainsRune("abcdefghijklmnopqrstuvwxyz0123456789_", g.r) }
	l, names := signs(s), []string{}
	for i, g := range l {
		if g.r != '@' || i > 0 && of(l[i-1]) {
			continue
		}
		name := ""
		for _, h := range l[i+1:] {
			if !of(h) {
				break
			}
			name += string(h.r)
		}
		if name != "" && len(name) <= 16 && !slices.Contains(names, name) {
			names = append(names, name)
		}
	}
	return names
}

func TestNamedOfMixed(t *testing.T) { // P3.2
	some := 0
	for _, s := range all() {
		got, e := text.Named(s)
		if want := named(s); !slices.Equal(got, want) || e != api.OK {
			t.Errorf("Named(%q) = %q, %v, not %q", s, got, e, want)
		}
		some += len(got)
	}
	if some < 100 {
		t.Errorf("but %d are named in all", some)
	}
}

func TestNamedOfLong(t *testing.T) { // P3.2
	for _, c := range []struct {
		unit string
		want int
	}{{"@ann ", 1}, {"@", 0}, {"@a@", 1}, {"a", 0}, {"\xff", 0}, {" ", 0}} {
		s := strings.Repeat(c.unit, api.MaxText/len(c.unit)+1)
		if got, e := text.Named(s[:api.MaxText]); len(got) != c.want || e != api.OK {
			t.Errorf("MaxText bytes of %q: %d named, %v", c.unit, len(got), e)
		}
		if got, e := text.Named(s[:api.MaxText] + "@"); len(got) != 0 || e != api.ErrLong {
			t.Errorf("one byte more of %q: %q, %v", c.unit, got, e)
		}
	}
	var b strings.Builder
	for n := range 99999 {
		b.WriteString("@" + strconv.Itoa(n) + " ")
	}
	if got, e := text.Named(b.String()); len(got) != 99999 || got[0] != "0" || got[99998] != "99998" || e != api.OK {
		t.Errorf("%d are named, %v", len(got), e)
	}
}

func TestLines(t *testing.T) { // P3.2
	for _, c := range []struct {
		in    string
		width int
		want  []string
	}{
		{"one two three", 7, []string{"one two", "three"}},
		{"abcdefgh ij", 3, []string{"abc", "def", "gh", "ij"}},
		{"", 1, nil}, {" ", 1, nil}, {"    ", 200, nil},
		{"a", 1, []string{"a"}}, {"a", 200, []string{"a"}}, {"a b", 1, []string{"a", "b"}}, {"a b", 2, []string{"a", "b"}}, {"a b", 3, []string{"a b"}},
		{"abc", 1, []string{"a", "b", "c"}}, {"ab c", 1, []string{"a", "b", "c"}},
		{" a b ", 3, []string{"a b"}}, {"  a   b  ", 3, []string{"a b"}}, {"  a   b  ", 2, []string{"a", "b"}}, {"   a", 1, []string{"a"}},
		{"abc", 3, []string{"abc"}}, {"abcd", 3, []string{"abc", "d"}}, {"abc d", 3, []string{"abc", "d"}}, {"abcd e", 3, []string{"abc", "d e"}}, {"abcd ef", 3, []string{"abc", "d", "ef"}},
		{"a abc", 5, []string{"a abc"}}, {"a abcd", 5, []string{"a", "abcd"}}, {"a abcde", 5, []string{"a", "abcde"}}, {"a abcdef", 5, []string{"a", "abcde", "f"}},
		{"a abcdef gh i", 5, []string{"a", "abcde", "f gh", "i"}}, {"abcdef gh", 3, []string{"abc", "def", "gh"}}, {"abcdefg h", 3, []string{"abc", "def", "g h"}},
		{"a b c d", 3, []string{"a b", "c d"}}, {"a b c d", 4, []string{"a b", "c d"}}, {"a b c d", 5, []string{"a b c", "d"}}, {"aa bb cc", 5, []string{"aa bb", "cc"}}, {"aa bb cc", 8, []string{"aa bb cc"}},
		{"é€ 😀a", 2, []string{"é€", "😀a"}}, {"é€😀a", 3, []string{"é€😀", "a"}}, {"é€ 😀", 4, []string{"é€ 😀"}},
		{"\xff\xff \xff", 4, []string{"\xff\xff \xff"}}, {"\xff\xff \xff", 3, []string{"\xff\xff", "\xff"}}, {"\xff\xff\xff", 2, []string{"\xff\xff", "\xff"}},
		{"\xe2\x82\xac", 1, []string{"€"}}, {"\xe2\x82", 1, []string{"\xe2", "\x82"}}, {"\xe2 \x82\xac", 1, []string{"\xe2", "\x82", "\xac"}},
		{"a\tb\nc\u00a0d", 20, []string{"a\tb\nc\u00a0d"}}, {"a\tb", 1, []string{"a", "\t", "b"}}, {"\x00 \u2003", 3, []string{"\x00 \u2003"}},
	} {
		got, e := text.Lines(c.in, c.width)
		if !slices.Equal(got, c.want) || e != api.OK {
			t.Errorf("Lines(%q, %d) = %q, %v, not %q", c.in, c.width, got, e, c.want)
		}
	}
}

func TestLinesOfTheGreatestWidth(t *testing.T) { // P3.2
	full := strings.Repeat("é", api.MaxSay)
	for _, c := range []struct {
		in   string
		want []string
	}{
		{full, []string{full}},
		{full + "a", []string{full, "a"}},
		{full + " a", []string{full, "a"}},
		{full + full, []string{full, full}},
		{full + full + "b c", []string{full, full, "b c"}},
		{strings.Repeat("a ", 250), []string{strings.Repeat("a ", 99) + "a", strings.Repeat("a ", 99) + "a", strings.Repeat("a ", 49) + "a"}},
	} {
		if got, e := text.Lines(c.in, api.MaxSay); !slices.Equal(got, c.want) || e != api.OK {
			t.Errorf("Lines(%.20q) = %d lines, %v, not %d", c.in, len(got), e, len(c.want))
		}
	}
}

func TestLinesRefused(t *testing.T) { // P3.2
	for _, width := range []int{0, -1, -7, math.MinInt, api.MaxSay + 1, api.MaxSay + 2, api.MaxText, math.MaxInt} {
		for _, s := range []string{"", "hi there", "\xff", strings.Repeat("a", api.MaxText+1)} {
			if got, e := text.Lines(s, width); len(got) != 0 || e != api.ErrArg {
				t.Errorf("Lines of %d bytes, width %d: %d lines, %v", len(s), width, len(got), e)
			}
		}
	}
	for _, width := range []int{1, 2, api.MaxSay} {
		for _, more := range []int{1, 2, api.MaxText} {
			for _, unit := range []string{"a", " ", "\xff"} {
				if got, e := text.Lines(strings.Repeat(unit, api.MaxText+more), width); len(got) != 0 || e != api.ErrLong {
					t.Errorf("%d bytes above MaxText, width %d: %d lines, %v", more, width, len(got), e)
				}
			}
		}
	}
}

func TestLinesOfMaxText(t *testing.T) { // P3.2
	for _, c := range []struct {
		unit        string
		width, want int
	}{
		{"a", 1, api.MaxText}, {"a", 2, api.MaxText / 2}, {"a", api.MaxSay, api.MaxText/api.MaxSay + 1},
		{"\xff", 1, api.MaxText}, {"é", 1, api.MaxText / 2}, {" ", 1, 0}, {" ", api.MaxSay, 0},
		{"a ", 1, api.MaxText / 2}, {"a ", 3, api.MaxText / 4}, {"a ", 200, api.MaxText/200 + 1},
	} {
		s := strings.Repeat(c.unit, api.MaxText/len(c.unit))
		if got, e := text.Lines(s, c.width); len(got) != c.want || e != api.OK {
			t.Errorf("MaxText bytes of %q, width %d: %d lines, %v, not %d", c.unit, c.width, len(got), e, c.want)
		}
	}
	far := "a" + strings.Repeat(" ", api.MaxText-2) + "b"
	if got, e := text.Lines(far, 2); !slices.Equal(got, []string{"a", "b"}) || e != api.OK {
		t.Errorf("two words far off: %q, %v", got, e)
	}
	if got, e := text.Lines(far, 3); !slices.Equal(got, []string{"a b"}) || e != api.OK {
		t.Errorf("two words far off: %q, %v", got, e)
	}
}

// lines lays words as the document tells it: word by word, a long one line by line.
func lines(s string, width int) []string {
	var done, line []string
	has := func() int { return len(signs(strings.Join(line, " "))) }
	end := func() {
		if len(line) > 0 {
			done, line = append(done, strings.Join(line, " ")), nil
		}
	}
	for _, word := range strings.Split(s, " ") {
		if word == "" {
			continue
		}
		if len(signs(word)) > width {
			end()
		}
		for len(signs(word)) > width {
			at := signs(word)[width].at
			done, word = append(done, word[:at]), word[at:]
		}
		if len(line) > 0 && has()+1+len(signs(word)) > width {
			end()
		}
		line = append(line, word)
	}
	end()
	return done
}

func TestLinesOfMixed(t *testing.T) { // P3.2, P3.4
	for _, s := range all() {
		for _, width := range []int{1, 2, 3, 4, 5, 7, 12, 16, 17, 40, api.MaxSay - 1, api.MaxSay} {
			got, e := text.Lines(s, width)
			if want := lines(s, width); !slices.Equal(got, want) || e != api.OK {
				t.Errorf("Lines(%q, %d) = %q, %v, not %q", s, width, got, e, want)
			}
			lawful(t, s, width, got)
		}
	}
}

// lawful asks what is promised of all lines: how long they are, and that their words are the text's words, but cut.
func lawful(t *testing.T, s string, width int, l []string) {
	t.Helper()
	for _, line := range l {
		if n := len(signs(line)); n < 1 || n > width || strings.HasPrefix(line, " ") || strings.HasSuffix(line, " ") || strings.Contains(line, "  ") {
			t.Errorf("of %q, width %d: the line %q of %d signs", s, width, line, n)
		}
	}
	words := slices.DeleteFunc(strings.Split(strings.Join(l, " "), " "), isEmpty)
	for _, word := range slices.DeleteFunc(strings.Split(s, " "), isEmpty) {
		for word != "" {
			if len(words) == 0 || !strings.HasPrefix(word, words[0]) {
				t.Fatalf("of %q, width %d: %q is lost", s, width, word)
			}
			if whole := words[0] == word; !whole && len(signs(words[0])) != width {
				t.Fatalf("of %q, width %d: cut to %q", s, width, words[0])
			}
			word, words = word[len(words[0]):], words[1:]
		}
	}
	if len(words) != 0 {
		t.Errorf("of %q, width %d: %q too many", s, width, words)
	}
}

func isEmpty(s string) bool { return s == "" }

func TestQuote(t *testing.T) { // P3.3
	for _, c := range []struct{ in, want string }{
		{"", `""`}, {"a", `"a"`}, {"a\"\x07", `"a\"\x07"`}, {`\`, `"\\"`}, {`"`, `"\""`}, {`\"`, `"\\\""`}, {`\x07`, `"\\x07"`},
		{" ~", `" ~"`}, {"\x1f\x7f", `"\x1f\x7f"`}, {"\n\t\r\x00", `"\x0a\x09\x0d\x00"`}, {"'`", "\"'`\""},
		{"é", `"\xc3\xa9"`}, {"😀", `"\xf0\x9f\x98\x80"`}, {"\xff\xfe", `"\xff\xfe"`}, {"\xab\xcd\xef", `"\xab\xcd\xef"`}, {"\ufffd", `"\xef\xbf\xbd"`},
	} {
		if got := text.Quote(c.in); got != c.want {
			t.Errorf("Quote(%q) = %s, not %s", c.in, got, c.want)
		}
	}
	for c := range 256 {
		if got := text.Quote(string([]byte{byte(c)})); got != quoted(byte(c)) {
			t.Errorf("Quote of byte %d = %s, not %s", c, got, quoted(byte(c)))
		}
	}
}

func quoted(c byte) string {
	switch {
	case c == '"' || c == '\\':
		return `"\` + string(rune(c)) + `"`
	case c >= 32 && c <= 126:
		return `"` + string(rune(c)) + `"`
	}
	return `"\x` + hex.EncodeToString([]byte{c}) + `"`
}

func TestUnquote(t *testing.T) { // P3.3
	for _, c := range []struct{ in, want string }{
		{`""`, ""}, {`"a"`, "a"}, {`"a\"\x07"`, "a\"\x07"}, {`"\\"`, `\`}, {`"\\x07"`, `\x07`}, {`"\\\""`, `\"`}, {`"\\\\"`, `\\`}, {`" "`, " "},
		{`"\xff\x00"`, "\xff\x00"}, {`"\xc3\xa9"`, "é"}, {`"\x7f"`, "\x7f"}, {`"x07"`, "x07"}, {`"\x0a1"`, "\n1"},
	} {
		if got, e := text.Unquote(c.in); got != c.want || e != api.OK {
			t.Errorf("Unquote(%s) = %q, %v, not %q", c.in, got, e, c.want)
		}
	}
}

func TestUnquoteRefused(t *testing.T) { // P3.3
	for _, in := range []string{
		"", "x", `"`, `'a'`, "`a`", `a`, `a"`, `"a`, ` "a"`, `"a" `, `"a"b`, `a"b"`, `""a`, `"a""`, `""""`, `"""`, `"a"b"`, // not between two "
		`"\"`, `"a\"`, `"\`, `\""`, `"\\\"`, // the last one has a \ ahead
		`"\`, `"\a"`, `"\n"`, `"\t"`, `"\0"`, `"\'"`, `"\ "`, `"\/"`, `"\u00e9"`, `"\X07"`, "\"\\\xff\"", // no such \
		`"\x"`, `"\x0"`, `"\x7"`, `"\xg0"`, `"\x0g"`, `"\x 7"`, `"\x+7"`, `"\x-7"`, `"\x0x"`, `"\x_7"`, `"\x0_"`, `"a\x0"`, "\"\\x0\xff\"", // no two digits
		`"\x0A"`, `"\xFF"`, `"\xfF"`, `"\xFf"`, `"\xC3\xA9"`, // great digits
		`"\x20"`, `"\x41"`, `"\x7e"`, `"\x22"`, `"\x5c"`, `"\x61"`, // what stands as it is, or has a \ ahead
		"\"\x07\"", "\"\n\"", "\"\x7f\"", "\"é\"", "\"\xff\"", "\"\x00\"", "\"\x1f\"", "\"\x80\"", // what does not stand as it is
	} {
		if got, e := text.Unquote(in); got != "" || e != api.ErrQuote {
			t.Errorf("Unquote(%s) = %q, %v", in, got, e)
		}
	}
}

func TestUnquoteTakesJustWhatQuoteMakes(t *testing.T) { // P3.3, P3.4
	taken := 0
	alphabet := []string{`"`, `\`, `x`, `0`, `7`, `a`, `f`, `F`, ` `, "\xff", "\x07"}
	var grow func(s string, left int)
	grow = func(s string, left int) {
		if got, e := text.Unquote(s); e == api.OK {
			taken++
			if text.Quote(got) != s {
				t.Fatalf("Unquote(%s) = %q, which is quoted as %s", s, got, text.Quote(got))
			}
		} else if e != api.ErrQuote || got != "" {
			t.Fatalf("Unquote(%s) = %q, %v", s, got, e)
		}
		if left == 0 {
			return
		}
		for _, c := range alphabet {
			grow(s+c, left-1)
		}
	}
	grow("", 4)
	grow(`"`, 4)
	grow(`"\x`, 3)
	if taken < 100 {
		t.Errorf("but %d were taken", taken)
	}
}

func TestWhatIsToldIsTheText(t *testing.T) { // P3.4
	for _, s := range all() {
		var b strings.Builder
		end := 0
		for at, r := range text.Each(s) {
			if at != end {
				t.Fatalf("%q: a sign at %d, not at %d", s, at, end)
			}
			part := string(r)
			if !strings.HasPrefix(s[at:], part) {
				part = s[at : at+1]
			}
			b.WriteString(part)
			end += len(part)
		}
		if b.String() != s {
			t.Errorf("%q is put together as %q", s, b.String())
		}
		for n := range text.Len(s) + 1 {
			if got := text.Cut(s, n); text.Len(got) != n || !strings.HasPrefix(s, got) {
				t.Errorf("Cut(%q, %d) = %q of %d signs", s, n, got, text.Len(got))
			}
		}
	}
}

func TestUnquoteOfQuote(t *testing.T) { // P3.4
	bytes := make([]byte, 0, 512)
	for c := range 512 {
		bytes = append(bytes, byte(c*7))
	}
	long := strings.Repeat(string(bytes), api.MaxText/len(bytes)*2)
	for _, s := range append(all(), string(bytes), long) {
		q := text.Quote(s)
		if got, e := text.Unquote(q); got != s || e != api.OK {
			t.Errorf("%.40q is unquoted as %.40q, %v", s, got, e)
		}
		for _, c := range []byte(q) {
			if c < 32 || c > 126 {
				t.Fatalf("quoted, %.40q has a byte %d", s, c)
			}
		}
		if again, e := text.Unquote(text.Quote(q)); again != q || e != api.OK {
			t.Errorf("quoted twice, %.40q is %.40q, %v", q, again, e)
		}
		if got, e := text.Unquote(q[1:]); got != "" || e != api.ErrQuote {
			t.Errorf("without its beginning, %.40q is %.40q, %v", q, got, e)
		}
		if got, e := text.Unquote(q[:len(q)-1]); got != "" || e != api.ErrQuote {
			t.Errorf("without its end, %.40q is %.40q, %v", q, got, e)
		}
	}
}

func TestFoldOfFold(t *testing.T) { // P3.4
	for _, s := range all() {
		once := text.Fold(s)
		if twice := text.Fold(once); twice != once {
			t.Errorf("Fold of Fold of %q = %q, not %q", s, twice, once)
		}
		if text.Check(once) != text.Check(s) {
			t.Errorf("%q may be said: %v; folded: %v", s, text.Check(s), text.Check(once))
		}
		if text.Len(once) != text.Len(s) {
			t.Errorf("%q has %d signs, folded %d", s, text.Len(s), text.Len(once))
		}
	}
}

func FuzzText(f *testing.F) { // P3.1, P3.2: whatever the text: what is told is what the document tells
	f.Add("@ann hi @bo, x@cy @ann", 7)
	f.Add("\xe2\x82 \xed\xa0\x80", 1)
	f.Fuzz(func(t *testing.T, s string, width int) {
		want := signs(s)
		gone(t, s, want, len(want))
		if got, e := text.Named(s); !slices.Equal(got, named(s)) || e != api.OK {
			t.Errorf("Named(%q) = %q, %v", s, got, e)
		}
		width = 1 + int(uint(width)%api.MaxSay)
		got, e := text.Lines(s, width)
		if !slices.Equal(got, lines(s, width)) || e != api.OK {
			t.Errorf("Lines(%q, %d) = %q, %v", s, width, got, e)
		}
		lawful(t, s, width, got)
	})
}

func FuzzUnquote(f *testing.F) { // P3.3: whatever the text: just what Quote makes is taken
	f.Add(`"a\"\x07"`)
	f.Add(`"\x0A"`)
	f.Fuzz(func(t *testing.T, s string) {
		if got, e := text.Unquote(s); e == api.OK && text.Quote(got) != s || e != api.OK && got != "" {
			t.Errorf("Unquote(%s) = %q, %v", s, got, e)
		}
		if got, e := text.Unquote(text.Quote(s)); got != s || e != api.OK {
			t.Errorf("%q is unquoted as %q, %v", s, got, e)
		}
	})
}
