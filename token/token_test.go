package token_test

import (
	"bytes"
	"encoding/base32"
	"math"
	"strings"
	"testing"
	"unsafe"

	"antiphon/api"
	"antiphon/hmac"
	"antiphon/token"
)

const alphabet = "abcdefghijklmnopqrstuvwxyz234567"

// spelledTold is bytes spelled as the document tells it: all bits laid out first, then five at a time.
func spelledTold(b []byte) string {
	bits := ""
	for _, c := range b {
		for i := 7; i >= 0; i-- {
			bits += string('0' + rune(c>>i&1))
		}
	}
	for len(bits)%5 != 0 {
		bits += "0"
	}
	var s strings.Builder
	for ; bits != ""; bits = bits[5:] {
		five := 0
		for _, bit := range bits[:5] {
			five = 2*five + int(bit-'0')
		}
		s.WriteByte(alphabet[five])
	}
	return s.String()
}

// unspelledTold asks which bytes are spelled so: those with so many signs whose bits these are.
func unspelledTold(s string) ([]byte, api.Errno) {
	bits := ""
	for i := range len(s) {
		five := strings.IndexByte(alphabet, s[i])
		if five < 0 {
			return nil, api.ErrSpell
		}
		for j := 4; j >= 0; j-- {
			bits += string('0' + rune(five>>j&1))
		}
	}
	var b []byte
	for ; len(bits) >= 8; bits = bits[8:] {
		c := 0
		for _, bit := range bits[:8] {
			c = 2*c + int(bit-'0')
		}
		b = append(b, byte(c))
	}
	if spelledTold(b) != s {
		return nil, api.ErrSpell
	}
	return b, api.OK
}

// numberTold is a number's bytes; more makes them longer than they need be.
func numberTold(n uint64, more int) []byte {
	var b []byte
	for ; n >= 128 || more > 0; n >>= 7 {
		b = append(b, byte(n)|128)
		if n < 128 {
			more--
		}
	}
	return append(b, byte(n))
}

// numbersTold is numbers' bytes, one behind the other.
func numbersTold(l ...uint64) []byte {
	var b []byte
	for _, n := range l {
		b = append(b, numberTold(n, 0)...)
	}
	return b
}

// tagTold is what stands behind a token's numbers under a master.
func tagTold(master string, body []byte) []byte {
	key, _ := hmac.Derive([]byte(master), "token", 32)
	tag := hmac.Tag(key, body)
	return tag[:16]
}

// sealedTold is any bytes with their tag behind them, spelled.
func sealedTold(master string, body []byte) string {
	return spelledTold(append(bytes.Clone(body), tagTold(master, body)...))
}

// history is the masters of keys, the first ahead.
type history []string

func (h history) kept(number int) bool {
	return number < len(h) && number >= len(h)-3
}

// madeTold is a token's text under the newest key, as the document tells it.
func (h history) madeTold(t api.Token) string {
	return sealedTold(h[len(h)-1], numbersTold(uint64(len(h)-1), uint64(t.Member), uint64(t.Session), uint64(t.Index)))
}

// takeTold takes a number from the bytes, as the document tells it.
func takeTold(b []byte) (n uint64, rest []byte, is bool) {
	for size := 1; size <= 9 && size <= len(b); size++ {
		if b[size-1] >= 128 {
			continue
		}
		for i := size - 1; i >= 0; i-- {
			n = n<<7 | uint64(b[i]&127)
		}
		return n, b[size:], size == 1 || b[size-1] != 0
	}
	return 0, nil, false
}

// openedTold is what Open answers, as the document tells it.
func (h history) openedTold(s string) (api.Token, api.Errno) {
	none := api.Token{}
	if len(s) > 200 {
		return none, api.ErrLong
	}
	b, e := unspelledTold(s)
	if e != api.OK {
		return none, e
	}
	var l [4]uint64
	rest := b
	for i := range l {
		n, left, is := takeTold(rest)
		if !is || n > 1<<31-1 {
			return none, api.ErrToken
		}
		l[i], rest = n, left
	}
	if len(rest) != 16 || l[1] > 15 {
		return none, api.ErrToken
	}
	if !h.kept(int(l[0])) {
		return none, api.ErrKey
	}
	if !bytes.Equal(tagTold(h[l[0]], b[:len(b)-16]), rest) {
		return none, api.ErrToken
	}
	return api.Token{Member: int(l[1]), Session: int64(l[2]), Index: int64(l[3])}, api.OK
}

func (h history) keys(t *testing.T) *token.Keys {
	t.Helper()
	k, e := token.New(h[0])
	if k == nil || e != api.OK {
		t.Fatalf("New(%q) = %v, %v", h[0], k, e)
	}
	for _, master := range h[1:] {
		turn(t, k, master)
	}
	return k
}

func turn(t *testing.T, k *token.Keys, master string) {
	t.Helper()
	if e := k.Turn(master); e != api.OK {
		t.Fatalf("Turn(%q) = %v", master, e)
	}
}

func mustMake(t *testing.T, k *token.Keys, a api.Token) string {
	t.Helper()
	s, e := k.Make(a)
	if s == "" || e != api.OK {
		t.Fatalf("Make(%v) = %q, %v", a, s, e)
	}
	return s
}

// opens asks whether a text is a token, and this one.
func opens(t *testing.T, k *token.Keys, s string, want api.Token) {
	t.Helper()
	if a, e := k.Open(s); a != want || e != api.OK {
		t.Errorf("Open(%q) = %v, %v, not %v", s, a, e, want)
	}
}

// shut asks whether a text is no token, and why.
func shut(t *testing.T, k *token.Keys, s string, why api.Errno) {
	t.Helper()
	if a, e := k.Open(s); a != (api.Token{}) || e != why {
		t.Errorf("Open(%q) = %v, %v, not %v", s, a, e, why)
	}
}

// nones are keys that are not there.
func nones() []*token.Keys {
	refused, _ := token.New("")
	var nobody *token.Keys
	return []*token.Keys{nil, {}, new(token.Keys), refused, nobody.Copy(), new(token.Keys).Copy()}
}

// some makes n bytes that look like none of a kind, the same each time.
func some(n int, seed uint32) []byte {
	b := make([]byte, n)
	for i := range b {
		seed = seed*1664525 + 1013904223
		b[i] = byte(seed >> 24)
	}
	return b
}

// samples are tokens at the bounds, and between them.
func samples() []api.Token {
	var all []api.Token
	numbers := []int64{0, 1, 5, 127, 128, 16383, 16384, 1<<21 - 1, 1 << 21, 1<<28 - 1, 1 << 28, math.MaxInt32 - 1, math.MaxInt32}
	for i, session := range numbers {
		for j, index := range numbers {
			all = append(all, api.Token{Member: (5*i + j) % 16, Session: session, Index: index})
		}
	}
	for member := range 16 {
		all = append(all, api.Token{Member: member, Session: 1, Index: 5}, api.Token{Member: member})
	}
	return all
}

func TestExamples(t *testing.T) { // P6.1, P6.2
	if s := token.Spell(nil) + token.Spell([]byte{}); s != "" {
		t.Errorf("Spell(none) = %q", s)
	}
	if s := token.Spell([]byte{0}); s != "aa" {
		t.Errorf("Spell(00) = %q", s)
	}
	if s := token.Spell(bytes.Repeat([]byte{255}, 5)); s != "77777777" {
		t.Errorf("Spell(ff ff ff ff ff) = %q", s)
	}
	for _, s := range []string{"a", "ab", "A7"} {
		if b, e := token.Unspell(s); b != nil || e != api.ErrSpell {
			t.Errorf("Unspell(%s) = %x, %v", s, b, e)
		}
	}
	k := history{"one"}.keys(t)
	a := api.Token{Member: 3, Session: 1, Index: 5}
	s := mustMake(t, k, a)
	for _, master := range []string{"two", "three"} {
		turn(t, k, master)
		opens(t, k, s, a)
	}
	turn(t, k, "four")
	shut(t, k, s, api.ErrKey)
}

func TestSpellsThatAreKnown(t *testing.T) { // P6.1
	known := map[string]string{
		"": "", "f": "my", "fo": "mzxq", "foo": "mzxw6", "foob": "mzxw6yq", "fooba": "mzxw6ytb", "foobar": "mzxw6ytboi",
		"\x00D2\x14\xc7BT\xb65\xcf\x84e:V\xd7\xc6u\xbew\xdf": alphabet,
	}
	for plain, want := range known {
		if s := token.Spell([]byte(plain)); s != want {
			t.Errorf("Spell(%x) = %q, not %q", plain, s, want)
		}
		if b, e := token.Unspell(want); string(b) != plain || e != api.OK {
			t.Errorf("Unspell(%q) = %x, %v, not %x", want, b, e, plain)
		}
	}
}

func TestSpell(t *testing.T) { // P6.1, P6.4
	other := base32.NewEncoding(alphabet).WithPadding(base32.NoPadding)
	ask := func(b []byte) {
		want := spelledTold(b)
		if want != other.EncodeToString(b) || len(want) != (8*len(b)+4)/5 {
			t.Fatalf("what is told of %x is wrong: %q", b, want)
		}
		if s := token.Spell(b); s != want {
			t.Fatalf("Spell(%x) = %q, not %q", b, s, want)
		}
		if back, e := token.Unspell(want); !bytes.Equal(back, b) || e != api.OK {
			t.Fatalf("Unspell(%q) = %x, %v, not %x", want, back, e, b)
		}
	}
	for n := range 67 {
		ask(some(n, uint32(n)))
		ask(make([]byte, n))
		ask(bytes.Repeat([]byte{255}, n))
		for bit := range 8 * n {
			b := make([]byte, n)
			b[bit/8] = 1 << (bit % 8)
			ask(b)
		}
	}
	for n := range 1 << 16 {
		ask([]byte{byte(n >> 8), byte(n)})
		if n < 256 {
			ask([]byte{byte(n)})
		}
	}
}

func TestLongSpells(t *testing.T) { // P6.1: no bound is told of them
	for _, n := range []int{124, 125, 126, 127, 1000, 4097, 1 << 20, 1<<20 + 1} {
		b := some(n, 3)
		s := token.Spell(b)
		if len(s) != (8*n+4)/5 {
			t.Errorf("%d bytes have %d signs", n, len(s))
		}
		if back, e := token.Unspell(s); !bytes.Equal(back, b) || e != api.OK {
			t.Errorf("Unspell of %d signs = %d bytes, %v", len(s), len(back), e)
		}
	}
}

func TestUnspell(t *testing.T) { // P6.1, P6.4: all texts of up to two bytes, all of three signs
	fits := 0
	ask := func(s string) {
		want, why := unspelledTold(s)
		b, e := token.Unspell(s)
		if !bytes.Equal(b, want) || e != why {
			t.Fatalf("Unspell(%q) = %x, %v, not %x, %v", s, b, e, want, why)
		}
		if e == api.OK {
			fits++
			if token.Spell(b) != s {
				t.Fatalf("%q is unspelled, and spelled %q", s, token.Spell(b))
			}
		} else if b != nil {
			t.Fatalf("Unspell(%q) = %x beside %v", s, b, e)
		}
	}
	ask("")
	for a := range 256 {
		ask(string([]byte{byte(a)}))
		for b := range 256 {
			ask(string([]byte{byte(a), byte(b)}))
		}
	}
	if fits != 1+256 {
		t.Errorf("%d texts are unspelled, not one for each byte and one for none", fits)
	}
	for n := range 1 << 15 {
		ask(string([]byte{alphabet[n>>10], alphabet[n>>5&31], alphabet[n&31]}))
	}
}

func TestSignsThatAreNone(t *testing.T) { // P6.1
	for _, n := range []int{2, 4, 5, 7, 8, 10, 16, 200, 202} {
		s := strings.Repeat("a", n)
		for at := range n {
			for c := range 256 {
				is := strings.IndexByte(alphabet, byte(c)) >= 0
				if is || n > 16 && at > 3 && at < n-3 {
					continue
				}
				other := s[:at] + string([]byte{byte(c)}) + s[at+1:]
				if b, e := token.Unspell(other); b != nil || e != api.ErrSpell {
					t.Fatalf("Unspell(%q) = %x, %v", other, b, e)
				}
			}
		}
	}
	for _, s := range []string{"aa======", "aa=", "AA", "mzxw6Ytb", "mzxw6 ytb", "mzxw6ytb\n", " aa", "aé", "ａａ", "\xff\xfe", "00", "18", "a\x00"} {
		if b, e := token.Unspell(s); b != nil || e != api.ErrSpell {
			t.Errorf("Unspell(%q) = %x, %v", s, b, e)
		}
	}
}

func TestNumbersOfSigns(t *testing.T) { // P6.1
	mayBe := map[int]bool{}
	for n := range 300 {
		mayBe[len(spelledTold(make([]byte, n)))] = true
	}
	for n := range 300 {
		s := strings.Repeat("a", n)
		b, e := token.Unspell(s)
		if mayBe[n] && (e != api.OK || len(b) != 5*n/8) || !mayBe[n] && (e != api.ErrSpell || b != nil) {
			t.Errorf("Unspell of %d signs = %d bytes, %v", n, len(b), e)
		}
	}
}

func TestBitsBeyond(t *testing.T) { // P6.1
	for n := range 26 {
		s := token.Spell(some(n+1, uint32(n)))
		last := len(s) - 1
		beyond := 5*len(s) - 8*(n+1)
		for five := range 32 {
			other := s[:last] + alphabet[five:five+1]
			want := api.OK
			if five%(1<<beyond) != 0 {
				want = api.ErrSpell
			}
			b, e := token.Unspell(other)
			if e != want || (b == nil) != (e != api.OK) || e == api.OK && len(b) != n+1 {
				t.Errorf("Unspell(%q) = %x, %v, not %v", other, b, e, want)
			}
		}
	}
}

func TestMastersThatMayBe(t *testing.T) { // P6.2
	for _, master := range []string{"a", " ", "\x00", "\xff", "é", "master", strings.Repeat("x", 63), strings.Repeat("x", 64), strings.Repeat("\x00", 64), string(some(64, 8))} {
		k, e := token.New(master)
		if k == nil || e != api.OK || k.Newest() != 0 {
			t.Fatalf("New(%q) = %v, %v", master, k, e)
		}
		h := history{"first", master}
		turned := h.keys(t)
		a := api.Token{Member: 15, Session: 7, Index: 300}
		if s := mustMake(t, turned, a); s != h.madeTold(a) {
			t.Errorf("under %q: %q, not %q", master, s, h.madeTold(a))
		}
		if s := mustMake(t, k, a); s != (history{master}).madeTold(a) {
			t.Errorf("under %q: %q, not %q", master, s, history{master}.madeTold(a))
		}
	}
}

func TestMastersThatMayNotBe(t *testing.T) { // P6.2
	for _, n := range []int{0, 65, 66, 128, 200, 1 << 20} {
		master := strings.Repeat("m", n)
		if k, e := token.New(master); k != nil || e != api.ErrArg {
			t.Errorf("New of %d bytes = %v, %v", n, k, e)
		}
		h := history{"one", "two"}
		k := h.keys(t)
		first := mustMake(t, history{"one"}.keys(t), api.Token{Member: 1})
		was := k.Copy()
		for range 3 {
			if e := k.Turn(master); e != api.ErrArg {
				t.Errorf("Turn of %d bytes = %v", n, e)
			}
		}
		if !token.Same(k, was) || k.Newest() != 1 || mustMake(t, k, api.Token{}) != h.madeTold(api.Token{}) {
			t.Errorf("a master of %d bytes that was refused changes the keys", n)
		}
		opens(t, k, first, api.Token{Member: 1})
	}
}

func TestNone(t *testing.T) { // P6.2, P6.3
	made := history{"a"}.keys(t)
	for i, k := range nones() {
		for _, master := range []string{"", "a", strings.Repeat("a", 65)} {
			if e := k.Turn(master); e != api.ErrNil {
				t.Errorf("%d: Turn = %v", i, e)
			}
		}
		for _, a := range []api.Token{{}, {Member: 3, Session: 1, Index: 5}, {Member: -1}, {Session: -1}, {Index: 1 << 40}} {
			if s, e := k.Make(a); s != "" || e != api.ErrNil {
				t.Errorf("%d: Make(%v) = %q, %v", i, a, s, e)
			}
		}
		for _, s := range []string{"", "a", "A", "aa", strings.Repeat("a", 201), mustMake(t, made, api.Token{})} {
			if a, e := k.Open(s); a != (api.Token{}) || e != api.ErrNil {
				t.Errorf("%d: Open(%q) = %v, %v", i, s, a, e)
			}
		}
		if k.Newest() != 0 || k.Copy() != nil {
			t.Errorf("%d: Newest = %d, Copy = %v", i, k.Newest(), k.Copy())
		}
		for j, other := range nones() {
			if !token.Same(k, other) {
				t.Errorf("%d and %d are none, and not the same", i, j)
			}
		}
		if token.Same(k, made) || token.Same(made, k) {
			t.Errorf("%d: none is the same as keys", i)
		}
	}
}

func TestTokensThatAreKnown(t *testing.T) { // P6.2: made by another program
	var long [64]byte
	for i := range long {
		long[i] = byte(i + 1)
	}
	for _, row := range []struct {
		h    history
		a    api.Token
		want string
	}{
		{history{"master"}, api.Token{Member: 3, Session: 1, Index: 5}, "aabqcblf76udgdrxozs4eopuc3b7cuzq"},
		{history{"k"}, api.Token{}, "aaaaaafnab2dif2ol5wks6kmtz3yyhg3"},
		{history{string(long[:])}, api.Token{Member: 15, Session: 2147483647, Index: 2147483647}, "aah7777774d7777774dvp6fmd7hy56zbgnskdixhylhoo"},
		{history{"first", "second"}, api.Token{Member: 7, Session: 128, Index: 16383}, "aedyaap7p4qx3hroecrfsyzhau3m62uf62yq"},
		{history{"first", "second", "\xff\x00\xfe"}, api.Token{Member: 1, Session: 16384, Index: 127}, "aiaybaabp43q7na3gniz4nb3krns6uvait3a"},
	} {
		k := row.h.keys(t)
		if s := mustMake(t, k, row.a); s != row.want {
			t.Errorf("Make(%v) = %q, not %q", row.a, s, row.want)
		}
		opens(t, k, row.want, row.a)
	}
}

func TestMake(t *testing.T) { // P6.2, P6.4
	h := history{"first"}
	k := h.keys(t)
	for n := range 5 {
		seen := map[string]api.Token{}
		for _, a := range samples() {
			s := mustMake(t, k, a)
			if s != h.madeTold(a) {
				t.Fatalf("Make(%v) = %q, not %q", a, s, h.madeTold(a))
			}
			if other, is := seen[s]; is && other != a {
				t.Fatalf("%v and %v have the same text", a, other)
			}
			seen[s] = a
			opens(t, k, s, a)
		}
		h = append(h, string(some(13*n+1, uint32(n))))
		turn(t, k, h[n+1])
	}
}

func TestTokensThatMayNotBe(t *testing.T) { // P6.2
	k := history{"one"}.keys(t)
	for _, a := range []api.Token{
		{Member: -1}, {Member: 16}, {Member: 17}, {Member: 128}, {Member: 1 << 32}, {Member: math.MinInt}, {Member: math.MaxInt},
		{Session: -1}, {Session: 1 << 31}, {Session: 1<<32 + 1}, {Session: 1 << 62}, {Session: 1<<62 + 1}, {Session: math.MinInt64}, {Session: math.MaxInt64},
		{Index: -1}, {Index: 1 << 31}, {Index: 1<<32 + 1}, {Index: 1 << 62}, {Index: 1<<62 + 1}, {Index: math.MinInt64}, {Index: math.MaxInt64},
		{Member: -1, Session: -1, Index: -1}, {Member: 15, Session: math.MaxInt32, Index: math.MaxInt32 + 1},
	} {
		if s, e := k.Make(a); s != "" || e != api.ErrArg {
			t.Errorf("Make(%v) = %q, %v", a, s, e)
		}
	}
	for _, a := range []api.Token{{}, {Member: 15}, {Session: math.MaxInt32}, {Index: math.MaxInt32}} {
		opens(t, k, mustMake(t, k, a), a)
	}
}

func TestTheLongestTexts(t *testing.T) { // P6.2
	h := history{"one", "two"}
	k := h.keys(t)
	for _, c := range []string{"a", "7", "A", "\xff"} {
		for _, n := range []int{201, 202, 208, 1000, 1 << 20} {
			shut(t, k, strings.Repeat(c, n), api.ErrLong)
		}
	}
	shut(t, k, strings.Repeat("a", 200), api.ErrToken)
	shut(t, k, strings.Repeat("a", 199), api.ErrToken)
	shut(t, k, strings.Repeat("a", 198), api.ErrSpell)
	shut(t, k, strings.Repeat("A", 200), api.ErrSpell)
	shut(t, k, strings.Repeat("a", 199)+"A", api.ErrSpell)
	s := mustMake(t, k, api.Token{Member: 15, Session: math.MaxInt32, Index: math.MaxInt32})
	for n := len(s); n <= 210; n++ {
		long := s + strings.Repeat("a", n-len(s))
		_, why := h.openedTold(long)
		if n == len(s) {
			why = api.OK
		}
		if _, e := k.Open(long); e != why || n > 200 && e != api.ErrLong {
			t.Errorf("a text of %d bytes: %v, not %v", n, e, why)
		}
	}
}

func TestShortTexts(t *testing.T) { // P6.2
	h := history{"one"}
	k := h.keys(t)
	s := mustMake(t, k, api.Token{Member: 3, Session: 200, Index: 70000})
	for n := range len(s) {
		for _, part := range []string{s[:n], s[n+1:]} {
			_, why := h.openedTold(part)
			if why != api.ErrSpell && why != api.ErrToken && why != api.ErrKey {
				t.Fatalf("what is told of %q is wrong: %v", part, why)
			}
			shut(t, k, part, why)
		}
	}
	shut(t, k, "", api.ErrToken)
	shut(t, k, "aa", api.ErrToken)
	for n := range 33 {
		body := make([]byte, n)
		shut(t, k, spelledTold(body), api.ErrToken)
		if n != 4 {
			shut(t, k, sealedTold("one", body), api.ErrToken)
		}
	}
}

func TestForgedNumbers(t *testing.T) { // P6.2: with a right tag behind them
	h := history{"one", "two", "three", "four"}
	k := h.keys(t)
	good := numbersTold(3, 2, 300, 5)
	opens(t, k, sealedTold("four", good), api.Token{Member: 2, Session: 300, Index: 5})
	const top = 1<<31 - 1
	for _, l := range [][]uint64{
		{3, 16, 1, 5}, {3, 17, 1, 5}, {3, 128, 1, 5}, {3, top, 1, 5}, {3, top + 1, 1, 5}, {3, 1<<32 + 2, 1, 5},
		{3, 2, top + 1, 5}, {3, 2, 1 << 32, 5}, {3, 2, 1<<32 + 1, 5}, {3, 2, 1 << 62, 5}, {3, 2, 1<<63 - 1, 5},
		{3, 2, 1, top + 1}, {3, 2, 1, 1 << 32}, {3, 2, 1, 1 << 62}, {3, 2, 1, 1<<63 - 1},
		{top + 1, 2, 1, 5}, {1<<32 + 3, 2, 1, 5}, {1 << 62, 2, 1, 5}, {1<<63 - 1, 2, 1, 5},
		{3, 2, 1}, {3, 2, 1, 5, 0}, {3, 2, 1, 5, 1}, {3}, {}, {9, 2, 1}, {9, 2, 1, 5, 0},
		{9, 16, 1, 5}, {9, 2, top + 1, 5}, {9, 2, 1, top + 1}, {0, 16, 1, 5},
	} {
		shut(t, k, sealedTold("four", numbersTold(l...)), api.ErrToken)
	}
	for at := range 4 {
		for _, more := range []int{1, 2, 8} {
			var body []byte
			for i, n := range [4]uint64{3, 2, 1, 5} {
				if i == at {
					body = append(body, numberTold(n, more)...)
				} else {
					body = append(body, byte(n))
				}
			}
			shut(t, k, sealedTold("four", body), api.ErrToken)
		}
	}
	opens(t, k, sealedTold("four", numbersTold(3, 15, top, top)), api.Token{Member: 15, Session: top, Index: top})
	opens(t, k, sealedTold("three", numbersTold(2, 0, 0, 0)), api.Token{})
}

func TestForgedTags(t *testing.T) { // P6.2
	h := history{"one", "two", "three", "four"}
	k := h.keys(t)
	a := api.Token{Member: 2, Session: 300, Index: 5}
	body := numbersTold(3, 2, 300, 5)
	key, _ := hmac.Derive([]byte("four"), "token", 32)
	whole := hmac.Tag(key, body)
	opens(t, k, spelledTold(append(bytes.Clone(body), whole[:16]...)), a)
	for _, n := range []int{0, 8, 12, 15, 17, 20, 31, 32} {
		shut(t, k, spelledTold(append(bytes.Clone(body), whole[:n]...)), api.ErrToken)
	}
	other, _ := hmac.Derive([]byte("four"), "Token", 32)
	short, _ := hmac.Derive([]byte("four"), "token", 31)
	more, _ := hmac.Derive([]byte("four"), "token", 64)
	for _, wrong := range [][]byte{nil, []byte("four"), other, short, more} {
		tag := hmac.Tag(wrong, body)
		shut(t, k, spelledTold(append(bytes.Clone(body), tag[:16]...)), api.ErrToken)
	}
	shut(t, k, spelledTold(append(bytes.Clone(body), whole[16:]...)), api.ErrToken)
	shut(t, k, spelledTold(append(bytes.Clone(body), make([]byte, 16)...)), api.ErrToken)
	for _, master := range []string{"one", "two", "three"} { // the number is another key's
		shut(t, k, sealedTold(master, body), api.ErrToken)
	}
	shut(t, k, sealedTold("four", numbersTold(2, 2, 300, 5)), api.ErrToken)
	opens(t, k, sealedTold("three", numbersTold(2, 2, 300, 5)), a)
}

func TestKeysThatAreNotKept(t *testing.T) { // P6.2, P6.4
	var h history
	for n := range 9 {
		h = append(h, "master "+string('0'+rune(n)))
		k := h.keys(t)
		for number := range 200 {
			body := numbersTold(uint64(number), 4, 1, 2)
			if h.kept(number) {
				opens(t, k, sealedTold(h[number], body), api.Token{Member: 4, Session: 1, Index: 2})
				continue
			}
			for _, master := range h { // whatever the tag is
				shut(t, k, sealedTold(master, body), api.ErrKey)
			}
			shut(t, k, spelledTold(append(body, make([]byte, 16)...)), api.ErrKey)
		}
		shut(t, k, sealedTold(h[n], numbersTold(1<<31-1, 4, 1, 2)), api.ErrKey)
	}
	k := history{"one"}.keys(t)
	for _, number := range []uint64{1, 2, 3} { // no key has it yet, though there is room for more
		shut(t, k, sealedTold("one", numbersTold(number, 4, 1, 2)), api.ErrKey)
		shut(t, k, sealedTold("", numbersTold(number, 4, 1, 2)), api.ErrKey)
	}
}

func TestNoKeyOfNoMaster(t *testing.T) { // P6.2: what is not there yet is no key of an empty master
	k := history{"one"}.keys(t)
	shut(t, k, sealedTold("", numbersTold(0, 4, 1, 2)), api.ErrToken)
	turn(t, k, "two")
	turn(t, k, "three")
	turn(t, k, "four")
	shut(t, k, sealedTold("", numbersTold(0, 4, 1, 2)), api.ErrKey)
}

func TestOneBit(t *testing.T) { // P6.2: of each bit that is another, and of each sign
	h := history{"one", "two", "three"}
	k := h.keys(t)
	for _, a := range []api.Token{{Member: 3, Session: 1, Index: 5}, {Member: 15, Session: 1 << 20, Index: math.MaxInt32}, {}} {
		s := mustMake(t, k, a)
		b, _ := unspelledTold(s)
		for bit := range 8 * len(b) {
			other := bytes.Clone(b)
			other[bit/8] ^= 1 << (bit % 8)
			text := spelledTold(other)
			_, why := h.openedTold(text)
			if why != api.ErrToken && why != api.ErrKey {
				t.Fatalf("what is told of %x is wrong: %v", other, why)
			}
			shut(t, k, text, why)
		}
		for at := range s {
			for c := range 256 {
				if byte(c) == s[at] {
					continue
				}
				text := s[:at] + string([]byte{byte(c)}) + s[at+1:]
				_, why := h.openedTold(text)
				if why == api.OK {
					t.Fatalf("what is told of %q is wrong", text)
				}
				shut(t, k, text, why)
			}
		}
		shut(t, k, strings.ToUpper(s), api.ErrSpell)
	}
}

func TestOrderOfErrors(t *testing.T) { // P6.2
	h := history{"one", "two", "three", "four"}
	k := h.keys(t)
	shut(t, k, strings.Repeat("!", 201), api.ErrLong)
	shut(t, k, "!", api.ErrSpell)
	shut(t, k, sealedTold("one", numbersTold(0, 3, 1, 5))[1:], api.ErrSpell)
	shut(t, k, sealedTold("one", numbersTold(0, 16, 1, 5)), api.ErrToken)
	shut(t, k, sealedTold("one", append(numbersTold(0, 3, 1, 5), 0)), api.ErrToken)
	shut(t, k, sealedTold("two", numbersTold(0, 3, 1, 5)), api.ErrKey)
	shut(t, k, sealedTold("one", numbersTold(3, 3, 1, 5)), api.ErrToken)
}

func TestNewest(t *testing.T) { // P6.2, P6.3: also of numbers with more than one byte
	h := history{"m"}
	k := h.keys(t)
	a := api.Token{Member: 9, Session: 8, Index: 7}
	ahead := []string{"", ""}
	for n := range 16500 {
		if k.Newest() != int64(n) {
			t.Fatalf("behind %d turns the newest key has the number %d", n, k.Newest())
		}
		if n < 10 || n > 120 && n < 140 || n > 16375 && n < 16395 {
			s := mustMake(t, k, a)
			if s != h.madeTold(a) {
				t.Fatalf("behind %d turns: %q, not %q", n, s, h.madeTold(a))
			}
			opens(t, k, s, a)
			for _, old := range ahead {
				if old != "" {
					opens(t, k, old, a)
				}
			}
			ahead = []string{ahead[1], s}
		} else {
			ahead = []string{"", ""}
		}
		h = append(h, string([]byte{byte(n), byte(n >> 8), 1}))
		turn(t, k, h[n+1])
	}
}

func TestKeptAsLong(t *testing.T) { // P6.4
	h := history{"0"}
	k := h.keys(t)
	type given struct {
		text string
		is   api.Token
		by   int
	}
	var all []given
	for n := range 8 {
		for member := range 3 {
			a := api.Token{Member: member, Session: int64(n), Index: int64(100 * n)}
			all = append(all, given{mustMake(t, k, a), a, n})
		}
		for _, g := range all {
			if n-g.by <= 2 {
				opens(t, k, g.text, g.is)
			} else {
				shut(t, k, g.text, api.ErrKey)
			}
		}
		turn(t, k, string('1'+rune(n)))
	}
}

func TestSameMasterAnew(t *testing.T) { // P6.2: a master that comes again is another key, with another number
	h := history{"m", "m", "m", "m"}
	k := h.keys(t)
	a := api.Token{Member: 1, Session: 2, Index: 3}
	seen := map[string]struct{}{}
	for n := range 4 {
		s := h[:n+1].madeTold(a)
		seen[s] = struct{}{}
		if n == 0 {
			shut(t, k, s, api.ErrKey)
		} else {
			opens(t, k, s, a)
		}
	}
	if len(seen) != 4 {
		t.Errorf("four keys made %d texts", len(seen))
	}
}

func TestCopy(t *testing.T) { // P6.3
	for n := 1; n < 6; n++ {
		var h history
		for i := range n {
			h = append(h, "m"+string('0'+rune(i)))
		}
		k := h.keys(t)
		a := api.Token{Member: 5, Session: 6, Index: 7}
		s := mustMake(t, k, a)
		c := k.Copy()
		if c == nil || c == k || !token.Same(c, k) || c.Newest() != k.Newest() || mustMake(t, c, a) != s {
			t.Fatalf("a copy of %d keys is another", n)
		}
		for range 3 {
			turn(t, c, "other")
		}
		if k.Newest() != int64(n-1) || mustMake(t, k, a) != s || token.Same(c, k) {
			t.Errorf("turns of a copy change the keys")
		}
		opens(t, k, s, a)
		shut(t, c, s, api.ErrKey)
		c = k.Copy()
		for range 3 {
			turn(t, k, "another")
		}
		if c.Newest() != int64(n-1) || mustMake(t, c, a) != s || token.Same(c, k) {
			t.Errorf("turns change a copy")
		}
		opens(t, c, s, a)
		shut(t, k, s, api.ErrKey)
		for range 3 {
			turn(t, c, "another")
		}
		if !token.Same(c, k) {
			t.Errorf("a copy that had the same turns is another")
		}
	}
}

func TestSame(t *testing.T) { // P6.3
	long := strings.Repeat("l", 64)
	all := []history{
		{"a"}, {"b"}, {"a\x00"}, {"A"}, {long}, {long[:63]}, {long[:63] + "\x00"}, {long[:63] + "m"},
		{"a", "a"}, {"a", "b"}, {"b", "a"}, {"b", "b"}, {"a", "a\x00"},
		{"a", "b", "c"}, {"c", "b", "a"}, {"x", "b", "c"}, {"a", "x", "c"}, {"a", "b", "x"},
		{"x", "a", "b", "c"}, {"y", "a", "b", "c"}, {"x", "a\x00", "b", "c"},
		{"x", "x", "a", "b", "c"}, {"y", "z", "a", "b", "c"}, {"a", "b", "c", "a", "b", "c"},
	}
	tail := func(h history) string {
		return strings.Join(h[max(0, len(h)-3):], "|")
	}
	for _, a := range all {
		for _, b := range all {
			want := len(a) == len(b) && tail(a) == tail(b)
			if is := token.Same(a.keys(t), b.keys(t)); is != want {
				t.Errorf("Same(%q, %q) = %v", a, b, is)
			}
		}
		k := a.keys(t)
		if !token.Same(k, k) {
			t.Errorf("%q are not the same as themselves", a)
		}
	}
}

func TestWhatIsHandedInIsLeft(t *testing.T) { // P6.1, P6.2
	for n := range 40 {
		room := append(some(n, 5), bytes.Repeat([]byte{0xa5}, 100)...)
		was := bytes.Clone(room)
		s := token.Spell(room[:n])
		if !bytes.Equal(room, was) {
			t.Errorf("%d bytes that were spelled are others", n)
		}
		clear(room)
		if s != spelledTold(was[:n]) {
			t.Errorf("%d bytes that were spelled are asked for later", n)
		}
	}
}

func TestWhatIsHandedInIsNotKept(t *testing.T) { // P6.2: nor is a master's own memory
	b := []byte("one")
	k, _ := token.New(unsafe.String(&b[0], len(b)))
	more := []byte("two")
	k.Turn(unsafe.String(&more[0], len(more)))
	clear(b)
	clear(more)
	h := history{"one", "two"}
	opens(t, k, h[:1].madeTold(api.Token{Member: 1}), api.Token{Member: 1})
	if mustMake(t, k, api.Token{}) != h.madeTold(api.Token{}) || !token.Same(k, h.keys(t)) {
		t.Error("a master's memory is kept")
	}
}

func TestAnswersAreNew(t *testing.T) { // P6.1, P6.2
	s := token.Spell(some(33, 1))
	first, _ := token.Unspell(s)
	clear(first[:cap(first)])
	if again, e := token.Unspell(s); !bytes.Equal(again, some(33, 1)) || e != api.OK {
		t.Errorf("Unspell = %x, %v", again, e)
	}
	k, other := history{"one"}.keys(t), history{"one"}.keys(t)
	turn(t, k, "two")
	if other.Newest() != 0 || token.Same(k, other) {
		t.Error("keys that were made apart do not go on apart")
	}
}

func TestAskingChangesNothing(t *testing.T) { // P6.2, P6.3
	h := history{"one", "two", "three", "four"}
	k := h.keys(t)
	was := k.Copy()
	a := api.Token{Member: 3, Session: 1, Index: 5}
	s := mustMake(t, k, a)
	for range 3 {
		if again := mustMake(t, k, a); again != s {
			t.Errorf("Make(%v) = %q, then %q", a, s, again)
		}
		k.Make(api.Token{Member: 16})
		opens(t, k, s, a)
		shut(t, k, s[1:], api.ErrSpell)
		shut(t, k, sealedTold("one", numbersTold(0, 3, 1, 5)), api.ErrKey)
		k.Newest()
		k.Copy()
		if !token.Same(k, was) {
			t.Fatal("asking changes the keys")
		}
	}
}

func FuzzSpell(f *testing.F) { // P6.1, P6.4
	for _, s := range []string{"", "a", "ab", "aa", "A7", "77777777", "mzxw6ytboi", "mzxw6===", "\xff"} {
		f.Add([]byte(s), s)
	}
	f.Fuzz(func(t *testing.T, b []byte, s string) {
		if got := token.Spell(b); got != spelledTold(b) {
			t.Fatalf("Spell(%x) = %q", b, got)
		}
		if back, e := token.Unspell(token.Spell(b)); !bytes.Equal(back, b) || e != api.OK {
			t.Fatalf("%x is spelled, and unspelled %x, %v", b, back, e)
		}
		want, why := unspelledTold(s)
		if got, e := token.Unspell(s); !bytes.Equal(got, want) || e != why {
			t.Fatalf("Unspell(%q) = %x, %v, not %x, %v", s, got, e, want, why)
		}
	})
}

func FuzzKeys(f *testing.F) { // P6.2, P6.4: whatever it is given: what the document tells
	h := history{"one", "two", "three", "four"}
	f.Add("four", 3, int64(1), int64(5), h.madeTold(api.Token{Member: 3, Session: 1, Index: 5}), numbersTold(3, 2, 300, 5))
	f.Add("", -1, int64(-1), int64(-1), "aa", numbersTold(1, 15, 1<<31-1, 1<<31-1))
	f.Add(strings.Repeat("m", 65), 16, int64(1<<31), int64(1<<31), strings.Repeat("a", 201), numbersTold(0, 2, 300, 5))
	f.Add(strings.Repeat("m", 64), 15, int64(1<<31-1), int64(1<<31-1), "!", numberTold(3, 1))
	f.Fuzz(func(t *testing.T, master string, member int, session, index int64, s string, body []byte) {
		k, told := h.keys(t), h
		if e := k.Turn(master); len(master) < 1 || len(master) > 64 {
			if e != api.ErrArg {
				t.Fatalf("Turn(%q) = %v", master, e)
			}
		} else if told = append(told[:len(told):len(told)], master); e != api.OK {
			t.Fatalf("Turn(%q) = %v", master, e)
		}
		a := api.Token{Member: member, Session: session, Index: index}
		made, e := k.Make(a)
		if member < 0 || member > 15 || session < 0 || session > 1<<31-1 || index < 0 || index > 1<<31-1 {
			if made != "" || e != api.ErrArg {
				t.Fatalf("Make(%v) = %q, %v", a, made, e)
			}
		} else if made != told.madeTold(a) || e != api.OK {
			t.Fatalf("Make(%v) = %q, %v, not %q", a, made, e, told.madeTold(a))
		}
		texts := []string{s, made, spelledTold(body)}
		for _, m := range told {
			texts = append(texts, sealedTold(m, body))
		}
		for _, text := range texts {
			want, why := told.openedTold(text)
			got, e := k.Open(text)
			if got != want || e != why {
				t.Fatalf("Open(%q) = %v, %v, not %v, %v", text, got, e, want, why)
			}
		}
	})
}
