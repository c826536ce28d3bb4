package blake_test

import (
	"bytes"
	"encoding/hex"
	"math"
	"strconv"
	"testing"

	"antiphon/api"
	"antiphon/blake"
)

// begin and orders are the document's own lists.
func begin() [8]uint32 {
	return [8]uint32{0x6a09e667, 0xbb67ae85, 0x3c6ef372, 0xa54ff53a, 0x510e527f, 0x9b05688c, 0x1f83d9ab, 0x5be0cd19}
}

func orders() [][]int {
	return [][]int{
		{0, 1, 2, 3, 4, 5, 6, 7, 8, 9, 10, 11, 12, 13, 14, 15},
		{14, 10, 4, 8, 9, 15, 13, 6, 1, 12, 0, 2, 11, 7, 5, 3},
		{11, 8, 12, 0, 5, 2, 15, 13, 10, 14, 3, 6, 7, 1, 9, 4},
		{7, 9, 3, 1, 13, 12, 11, 14, 2, 6, 5, 10, 4, 0, 15, 8},
		{9, 0, 5, 7, 2, 4, 10, 15, 14, 1, 11, 12, 6, 8, 3, 13},
		{2, 12, 6, 10, 0, 11, 8, 3, 4, 13, 7, 5, 15, 14, 1, 9},
		{12, 5, 1, 15, 14, 13, 4, 10, 0, 7, 6, 3, 9, 2, 8, 11},
		{13, 11, 7, 14, 12, 1, 3, 9, 5, 0, 15, 4, 8, 6, 2, 10},
		{6, 15, 14, 9, 11, 3, 0, 8, 12, 2, 13, 7, 1, 4, 10, 5},
		{10, 2, 8, 4, 7, 6, 1, 5, 15, 11, 9, 14, 3, 12, 13, 0},
	}
}

// turned is a word turned as the document tells it, told by numbers.
func turned(w uint32, n int) uint32 {
	unit := uint64(1) << n
	return uint32(uint64(w)/unit + uint64(w)%unit*(1<<32/unit))
}

// mixedTold is four words mixed as the document tells it.
func mixedTold(q [4]uint32, x, y uint32) [4]uint32 {
	a, b, c, d := q[0], q[1], q[2], q[3]
	a = a + b + x
	d = turned(d^a, 16)
	c = c + d
	b = turned(b^c, 12)
	a = a + b + y
	d = turned(d^a, 8)
	c = c + d
	b = turned(b^c, 7)
	return [4]uint32{a, b, c, d}
}

// pressedTold is a state pressed as the document tells it.
func pressedTold(h [8]uint32, b [64]byte, count uint64, last bool) [8]uint32 {
	var given []uint32
	for i := 0; i < 64; i += 4 {
		given = append(given, uint32(b[i])+uint32(b[i+1])*256+uint32(b[i+2])*65536+uint32(b[i+3])*16777216)
	}
	iv := begin()
	v := append(append([]uint32(nil), h[:]...), iv[:]...)
	v[12] ^= uint32(count % (1 << 32))
	v[13] ^= uint32(count / (1 << 32))
	if last {
		v[14] = math.MaxUint32 - v[14]
	}
	for _, order := range orders() {
		for i, at := range [][]int{{0, 4, 8, 12}, {1, 5, 9, 13}, {2, 6, 10, 14}, {3, 7, 11, 15}, {0, 5, 10, 15}, {1, 6, 11, 12}, {2, 7, 8, 13}, {3, 4, 9, 14}} {
			q := mixedTold([4]uint32{v[at[0]], v[at[1]], v[at[2]], v[at[3]]}, given[order[2*i]], given[order[2*i+1]])
			v[at[0]], v[at[1]], v[at[2]], v[at[3]] = q[0], q[1], q[2], q[3]
		}
	}
	for i := range h {
		h[i] = h[i] ^ v[i] ^ v[i+8]
	}
	return h
}

// told is the sum as the document tells it: all bytes laid first, then cut into blocks.
func told(size int, key, b []byte) []byte {
	h := begin()
	h[0] ^= 16842752 + 256*uint32(len(key)) + uint32(size)
	var all []byte
	if len(key) > 0 {
		all = append(append(all, key...), make([]byte, 64-len(key))...)
	}
	all = append(all, b...)
	for at := 0; ; at += 64 {
		var block [64]byte
		n := copy(block[:], all[at:])
		h = pressedTold(h, block, uint64(at+n), at+n == len(all))
		if at+n == len(all) {
			break
		}
	}
	var sum []byte
	for _, w := range h {
		sum = append(sum, byte(w), byte(w>>8), byte(w>>16), byte(w>>24))
	}
	return sum[:size]
}

// count makes n bytes: 0, 1, 2 and so on, modulo 251.
func count(n int) []byte {
	b := make([]byte, n)
	for i := range b {
		b[i] = byte(i % 251)
	}
	return b
}

// some makes n bytes that look like none of a kind, the same each time.
func some(n int, seed uint32) []byte {
	b := make([]byte, n)
	for i := range b {
		seed = seed*1664525 + 1013904223
		b[i] = byte(seed >> 24)
	}
	return b
}

func someWords(seed uint32) (h [8]uint32) {
	for i := range h {
		seed = seed*1664525 + 1013904223
		h[i] = seed
	}
	return h
}

func full(b []byte) (block [64]byte) {
	copy(block[:], b)
	return block
}

func whole(b []byte) string {
	s := blake.Sum(b)
	return hex.EncodeToString(s[:])
}

func lengths() []int {
	return []int{0, 1, 2, 3, 31, 32, 33, 62, 63, 64, 65, 66, 126, 127, 128, 129, 130, 191, 192, 193, 255, 256, 257, 1000}
}

func sizes() []int { return []int{1, 2, 3, 4, 5, 8, 16, 20, 30, 31, 32} }

func keys() []int { return []int{0, 1, 2, 16, 30, 31, 32} }

func hash(t *testing.T, size int, key []byte) *blake.Hash {
	t.Helper()
	h, e := blake.New(size, key)
	if h == nil || e != api.OK {
		t.Fatalf("New(%d, %d bytes) = %v, %v", size, len(key), h, e)
	}
	return h
}

func write(t *testing.T, h *blake.Hash, parts ...[]byte) {
	t.Helper()
	for _, p := range parts {
		if e := h.Write(p); e != api.OK {
			t.Fatalf("Write(%d bytes) = %v", len(p), e)
		}
	}
}

func TestMix(t *testing.T) { // P4.1
	const top = math.MaxUint32
	for _, c := range []struct {
		q    [4]uint32
		x, y uint32
		want [4]uint32
	}{
		{[4]uint32{}, 0, 0, [4]uint32{}},
		{[4]uint32{1, 2, 3, 4}, 5, 6, [4]uint32{0x001000ce, 0x879c3839, 0xce0c1c03, 0xce001c00}},
		{[4]uint32{}, 1, 0, [4]uint32{0x00000011, 0x20220202, 0x11010100, 0x11000100}},
		{[4]uint32{}, 0, 1, [4]uint32{0x00000001, 0x00020000, 0x01000000, 0x01000000}},
		{[4]uint32{top, top, top, top}, top, top, [4]uint32{0x000fffdc, 0x3db81be4, 0xdc020dfe, 0xdc000dff}},
		{[4]uint32{top, 1, top, 1}, top, 1, [4]uint32{0xffffffef, 0x23e001fe, 0x0fff00fe, 0x10000100}},
		{[4]uint32{0x6a09e667, 0xbb67ae85, 0x3c6ef372, 0xa54ff53a}, 0x510e527f, 0x9b05688c, [4]uint32{0x9404aa6d, 0xda5c708c, 0xac471c1b, 0x5d865579}},
	} {
		if got := blake.Mix(c.q, c.x, c.y); got != c.want {
			t.Errorf("Mix(%x, %x, %x) = %08x, not %08x", c.q, c.x, c.y, got, c.want)
		}
	}
	for seed := range uint32(500) {
		w := someWords(seed)
		q := [4]uint32{w[0], w[1], w[2], w[3]}
		if got, want := blake.Mix(q, w[4], w[5]), mixedTold(q, w[4], w[5]); got != want {
			t.Errorf("Mix(%x, %x, %x) = %08x, not %08x", q, w[4], w[5], got, want)
		}
	}
}

func TestMixOfEachBit(t *testing.T) { // P4.1
	for bit := range 32 * 6 {
		var l [6]uint32
		l[bit/32] = 1 << (bit % 32)
		q := [4]uint32{l[0], l[1], l[2], l[3]}
		if got, want := blake.Mix(q, l[4], l[5]), mixedTold(q, l[4], l[5]); got != want {
			t.Errorf("Mix(%x, %x, %x) = %08x, not %08x", q, l[4], l[5], got, want)
		}
	}
}

func TestPress(t *testing.T) { // P4.1
	for _, c := range []struct {
		count uint64
		last  bool
		want  [8]uint32
	}{
		{0, false, [8]uint32{0x18399719, 0xcfce2e5a, 0xe55fdbec, 0x53c4652e, 0xe8c1b168, 0xf12b475f, 0x420c36d6, 0x61eabb85}},
		{0, true, [8]uint32{0x8cb8187d, 0xf9238630, 0xe262c165, 0x8699ca87, 0x620afab1, 0x51cbf767, 0x4483dda7, 0xfc10ad71}},
		{1, false, [8]uint32{0x844a60f8, 0xd7a39695, 0x806e733a, 0x7443973e, 0x86ed9461, 0x6afa9e9c, 0x71f91586, 0x00bfd304}},
		{1, true, [8]uint32{0xbcbcf862, 0x07d44544, 0x0dc8d312, 0x4d010e43, 0x3019f5cc, 0x0a783697, 0xf4732ff4, 0x0711f99f}},
		{64, false, [8]uint32{0x4d2e1d4d, 0x8663c4fc, 0x32ca0d5d, 0x33c46e19, 0xdc3d3ef7, 0xa2b111ad, 0x9169221f, 0x671e61cb}},
		{64, true, [8]uint32{0x9e8ec176, 0x0c283c81, 0xc85f7dc3, 0x773fe247, 0x275f8004, 0xc02bc843, 0x24e070b5, 0x3e48c57f}},
		{1<<32 - 1, false, [8]uint32{0xec24cdeb, 0xad90aa98, 0x9cd9a99f, 0x060f04de, 0x15446ce2, 0xa75ce9d3, 0x7733ce26, 0x496541c3}},
		{1<<32 - 1, true, [8]uint32{0xbeabf3bd, 0xa20e89bf, 0x3ab24350, 0xa068acd3, 0x553e4cab, 0x52c87bb8, 0xf1fd74f9, 0xdbee3667}},
		{1 << 32, false, [8]uint32{0xc99082f2, 0xe480ea77, 0x4596d3ac, 0xe0426cc0, 0x9569472c, 0x7157858e, 0xe7627049, 0x57981148}},
		{1 << 32, true, [8]uint32{0x696402f8, 0x8de4bbb9, 0xd1b15fa8, 0x490a3791, 0x43cec89d, 0xa7315404, 0xc77e8e36, 0xed39652c}},
		{1<<32 + 1, false, [8]uint32{0x5d698209, 0x8660a8e4, 0x8754cf1e, 0xe53219e5, 0xaa9d3582, 0xf518174c, 0xf8bd48ec, 0x03be19fc}},
		{1<<32 + 1, true, [8]uint32{0xf791936c, 0x4ee6fb98, 0x0aa723a7, 0xe60fe155, 0x1ae9a797, 0x66135e96, 0xf466bc11, 0x74d27274}},
		{1<<33 + 64, false, [8]uint32{0xbfbb2eec, 0x50267d33, 0x4cfff61c, 0x023d7583, 0x754176c9, 0xf947bd38, 0x614f0f70, 0x16b4e792}},
		{1<<33 + 64, true, [8]uint32{0xaba97b6a, 0xf60b6614, 0x97a3a846, 0xb7bc092b, 0xe7f3ca3e, 0xf738dc59, 0xeaf690cf, 0x4ce923f5}},
		{1 << 63, false, [8]uint32{0xefec348b, 0x9cc47725, 0x0ff1a949, 0x5b08754c, 0xdb21b52b, 0x4d24866c, 0x793be5f9, 0xbff4c421}},
		{1 << 63, true, [8]uint32{0x0865f8a0, 0xdc4febdc, 0xbb2a0187, 0x56942684, 0x50d656e8, 0xeb64aa0e, 0x994493f0, 0x294419a5}},
		{math.MaxUint64, false, [8]uint32{0x1b6bdc2d, 0x3b47cb0e, 0xea413846, 0xc001f375, 0x82e5729b, 0x61a2ca40, 0xebddb428, 0x95b96c61}},
		{math.MaxUint64, true, [8]uint32{0x4aa31055, 0xec089346, 0x5d6fa8ea, 0x5ac20058, 0x142bb33f, 0x5db60218, 0x6aaa2f94, 0x3a6302df}},
	} {
		got := blake.Press([8]uint32{1, 2, 3, 4, 5, 6, 7, 8}, full(count(64)), c.count, c.last)
		if got != c.want {
			t.Errorf("pressed, count %d, last %v: %08x, not %08x", c.count, c.last, got, c.want)
		}
	}
}

func TestPressOfSome(t *testing.T) { // P4.1
	for seed := range uint32(50) {
		h, b := someWords(seed), full(some(64, seed))
		for _, n := range []uint64{0, 64, 1 << 31, 1<<32 - 1, 1 << 32, 1<<32 + 1, 1<<63 + 1, math.MaxUint64} {
			for _, last := range []bool{false, true} {
				got, want := blake.Press(h, b, n, last), pressedTold(h, b, n, last)
				if got != want {
					t.Errorf("seed %d, count %d, last %v: %08x, not %08x", seed, n, last, got, want)
				}
			}
		}
	}
}

func TestPressOfEachByte(t *testing.T) { // P4.1
	for i := range 64 {
		var b [64]byte
		b[i] = byte(i + 1)
		if got, want := blake.Press(begin(), b, 64, true), pressedTold(begin(), b, 64, true); got != want {
			t.Errorf("byte %d alone: %08x, not %08x", i, got, want)
		}
	}
	for i := range 8 {
		var h [8]uint32
		h[i] = 1
		if got, want := blake.Press(h, [64]byte{}, 0, false), pressedTold(h, [64]byte{}, 0, false); got != want {
			t.Errorf("word %d alone: %08x, not %08x", i, got, want)
		}
	}
}

func TestExamples(t *testing.T) { // P4.2
	for in, want := range map[string]string{"abc": "508c5e8c327c14e2", "": "69217a3079908094"} {
		if got := whole([]byte(in)); got[:16] != want {
			t.Errorf("Sum(%q) begins with %s, not %s", in, got[:16], want)
		}
	}
	if s := blake.Sum(); hex.EncodeToString(s[:8]) != "69217a3079908094" {
		t.Errorf("Sum of no part begins with %x", s[:8])
	}
	if b, e := blake.Keyed(33, nil); b != nil || e != api.ErrArg {
		t.Errorf("Keyed(33, none) = %x, %v", b, e)
	}
	if b, e := blake.Keyed(32, make([]byte, 33)); b != nil || e != api.ErrArg {
		t.Errorf("Keyed(32, 33 bytes) = %x, %v", b, e)
	}
}

func TestSumsThatAreKnown(t *testing.T) { // P4.2
	for _, c := range []struct {
		n            int
		plain, keyed string
	}{
		{0, "69217a3079908094e11121d042354a7c1f55b6482ca1a51e1b250dfd1ed0eef9", "48a8997da407876b3d79c0d92325ad3b89cbb754d86ab71aee047ad345fd2c49"},
		{1, "e34d74dbaf4ff4c6abd871cc220451d2ea2648846c7757fbaac82fe51ad64bea", "40d15fee7c328830166ac3f918650f807e7e01e177258cdc0a39b11f598066f1"},
		{3, "e8f91c6ef232a041452ab0e149070cdd7dd1769e75b3a5921be37876c45c9900", "1d220dbe2ee134661fdf6d9e74b41704710556f2f6e5a091b227697445dbea6b"},
		{63, "e57cb79487dd57902432b250733813bd96a84efce59f650fac26e6696aefafc3", "c65382513f07460da39833cb666c5ed82e61b9e998f4b0c4287cee56c3cc9bcd"},
		{64, "56f34e8b96557e90c1f24b52d0c89d51086acf1b00f634cf1dde9233b8eaaa3e", "8975b0577fd35566d750b362b0897a26c399136df07bababbde6203ff2954ed4"},
		{65, "1b53ee94aaf34e4b159d48de352c7f0661d0a40edff95a0b1639b4090e974472", "21fe0ceb0052be7fb0f004187cacd7de67fa6eb0938d927677f2398c132317a8"},
		{127, "f18417b39d617ab1c18fdf91ebd0fc6d5516bb34cf39364037bce81fa04cecb1", "ddbfea75cc467882eb3483ce5e2e756a4f4701b76b445519e89f22d60fa86e06"},
		{128, "1fa877de67259d19863a2a34bcc6962a2b25fcbf5cbecd7ede8f1fa36688a796", "0c311f38c35a4fb90d651c289d486856cd1413df9b0677f53ece2cd9e477c60a"},
		{129, "5bd169e67c82c2c2e98ef7008bdf261f2ddf30b1c00f9e7f275bb3e8a28dc9a2", "46a73a8dd3e70f59d3942c01df599def783c9da82fd83222cd662b53dce7dbdf"},
		{1000, "1c067a5e746fb0f6734efac9a8cdb0e11061f0077f255184365c690115392501", "d5c42863172fb2424de520ff25866bf2ac9201ce81b6a8b703f67ea4c6735767"},
	} {
		if got := whole(count(c.n)); got != c.plain {
			t.Errorf("Sum of %d bytes = %s, not %s", c.n, got, c.plain)
		}
		if got, e := blake.Keyed(32, count(32), count(c.n)); hex.EncodeToString(got) != c.keyed || e != api.OK {
			t.Errorf("Keyed of %d bytes = %x, %v, not %s", c.n, got, e, c.keyed)
		}
	}
	if got := whole(count(api.MaxText)); got != "627d07f94f87954340a1215d9be99e5c7263ab96e569369613d2811f9ae71b64" {
		t.Errorf("Sum of MaxText bytes = %s", got)
	}
	if got, e := blake.Keyed(9, count(7), count(api.MaxText)); hex.EncodeToString(got) != "54b8b96019c240478a" || e != api.OK {
		t.Errorf("Keyed of MaxText bytes = %x, %v", got, e)
	}
}

func TestKeyedThatAreKnown(t *testing.T) { // P4.2
	for _, c := range []struct {
		size, key, n int
		want         string
	}{
		{1, 0, 0, "a1"},
		{1, 1, 1, "95"},
		{31, 31, 64, "c86869c1f8dc03277dd389a95ca8f991b575185c51dd4a4f1401a7b3f569ba"},
		{32, 1, 0, "cdcf93dac5437c31bf1e79a8398fbbddd1cef4427428ced165264455a9c48a95"},
		{16, 0, 3, "c41561edb251df8f3c9523524d60a707"},
		{20, 20, 128, "41aca2090f9cfb57284be7b507087580e763409f"},
		{31, 32, 65, "7bdc7bfb861213d6e1230419f74effefd68f6368c4d5f79d03419ed170f385"},
		{32, 31, 129, "c7366811b99b45594806e210ba26dd9b6b0bf7dc0405be8050e975fd0ada3d2e"},
		{1, 32, 0, "3a"},
		{2, 5, 200, "15cd"},
	} {
		if got, e := blake.Keyed(c.size, count(c.key), count(c.n)); hex.EncodeToString(got) != c.want || e != api.OK {
			t.Errorf("Keyed(%d, %d bytes, %d bytes) = %x, %v, not %s", c.size, c.key, c.n, got, e, c.want)
		}
	}
}

// TestSumOfSums goes over sizes, keys and lengths, and holds the sum of all their sums against the one that is published with the algorithm.
func TestSumOfSums(t *testing.T) { // P4.2
	fill := func(n int) []byte {
		b := make([]byte, n)
		x, y := uint32(0xdead4bad*uint64(n)), uint32(1)
		for i := range b {
			x, y = y, x+y
			b[i] = byte(y >> 24)
		}
		return b
	}
	var sums [][]byte
	for _, size := range []int{16, 20, 28, 32} {
		for _, n := range []int{0, 3, 64, 65, 255, 1024} {
			plain, e := blake.Keyed(size, nil, fill(n))
			keyed, f := blake.Keyed(size, fill(size), fill(n))
			if e != api.OK || f != api.OK {
				t.Fatalf("size %d, %d bytes: %v, %v", size, n, e, f)
			}
			sums = append(sums, plain, keyed)
		}
	}
	want := "6a411f08ce25adcdfb02aba641451cec53c598b24f4fc787fbdc88797f4c1dfe"
	if s := blake.Sum(sums...); hex.EncodeToString(s[:]) != want {
		t.Errorf("the sum of sums is %x, not %s", s, want)
	}
}

func TestKeyedOfAll(t *testing.T) { // P4.2
	for size := 1; size <= 32; size++ {
		for key := range 33 {
			b := some(100, uint32(key))
			got, e := blake.Keyed(size, b[:key], b)
			if want := told(size, b[:key], b); !bytes.Equal(got, want) || e != api.OK {
				t.Errorf("Keyed(%d, %d bytes) = %x, %v, not %x", size, key, got, e, want)
			}
		}
	}
	for n := range 300 {
		b := some(n, uint32(n))
		for _, key := range keys() {
			got, e := blake.Keyed(32, b[:min(key, n)], b)
			if want := told(32, b[:min(key, n)], b); !bytes.Equal(got, want) || e != api.OK {
				t.Errorf("Keyed(32, %d bytes, %d bytes) = %x, %v, not %x", min(key, n), n, got, e, want)
			}
		}
		if got := blake.Sum(b); !bytes.Equal(got[:], told(32, nil, b)) {
			t.Errorf("Sum(%d bytes) = %x, not %x", n, got, told(32, nil, b))
		}
	}
}

func TestKeyCounts(t *testing.T) { // P4.2
	sums := map[string]string{}
	put := func(what string, size int, key []byte) {
		s, e := blake.Keyed(size, key, []byte("hi"))
		if e != api.OK {
			t.Errorf("%s: %v", what, e)
		}
		if other, is := sums[string(s)]; is {
			t.Errorf("%s has the sum of %s", what, other)
		}
		sums[string(s)] = what
	}
	for n := range 33 {
		put(strconv.Itoa(n)+" noughts as a key", 32, make([]byte, n))
	}
	for size := 4; size < 32; size++ {
		put("size "+strconv.Itoa(size), size, nil)
	}
	a, _ := blake.Keyed(31, nil, nil)
	b, _ := blake.Keyed(32, nil, nil)
	if bytes.HasPrefix(b, a) {
		t.Error("a sum of size 31 is the beginning of that of size 32")
	}
	empty, _ := blake.Keyed(32, []byte{}, []byte("hi"))
	none, _ := blake.Keyed(32, nil, []byte("hi"))
	plain := blake.Sum([]byte("hi"))
	if !bytes.Equal(empty, none) || !bytes.Equal(none, plain[:]) {
		t.Error("an empty key is not as none")
	}
}

func TestRefused(t *testing.T) { // P4.2, P4.3
	for _, c := range []struct {
		size, key int
		want      api.Errno
	}{
		{0, 0, api.ErrArg}, {-1, 0, api.ErrArg}, {33, 0, api.ErrArg}, {64, 0, api.ErrArg}, {257, 0, api.ErrArg},
		{math.MinInt, 0, api.ErrArg}, {math.MaxInt, 0, api.ErrArg},
		{32, 33, api.ErrArg}, {1, 33, api.ErrArg}, {32, 64, api.ErrArg}, {32, 65, api.ErrArg}, {32, 256, api.ErrArg}, {32, 1 << 16, api.ErrArg},
		{0, 33, api.ErrArg}, {33, 33, api.ErrArg}, {-32, 32, api.ErrArg}, {0, 32, api.ErrArg}, {33, 32, api.ErrArg},
		{1, 0, api.OK}, {1, 1, api.OK}, {1, 31, api.OK}, {1, 32, api.OK}, {31, 31, api.OK}, {32, 0, api.OK}, {32, 1, api.OK}, {32, 32, api.OK},
	} {
		key := count(c.key)
		b, e := blake.Keyed(c.size, key, []byte("hi"))
		if e != c.want || (b != nil) != (c.want == api.OK) {
			t.Errorf("Keyed(%d, %d bytes) = %x, %v, not %v", c.size, c.key, b, e, c.want)
		}
		h, e := blake.New(c.size, key)
		if e != c.want || (h != nil) != (c.want == api.OK) {
			t.Errorf("New(%d, %d bytes) = %v, %v, not %v", c.size, c.key, h, e, c.want)
		}
		if c.want != api.OK && h.Write(key) != api.ErrNil {
			t.Errorf("New(%d, %d bytes) was refused, and is written to", c.size, c.key)
		}
	}
}

func TestNoHash(t *testing.T) { // P4.3
	var none *blake.Hash
	for i, h := range []*blake.Hash{none, new(blake.Hash), {}} {
		for range 2 {
			for _, b := range [][]byte{nil, {}, []byte("hi"), count(200)} {
				if e := h.Write(b); e != api.ErrNil {
					t.Errorf("row %d: Write(%d bytes) = %v", i, len(b), e)
				}
			}
			if s := h.Sum(); s != nil {
				t.Errorf("row %d: Sum = %x", i, s)
			}
			if n := h.Len(); n != 0 {
				t.Errorf("row %d: Len = %d", i, n)
			}
			if c := h.Copy(); c != nil {
				t.Errorf("row %d: Copy = %v", i, c)
			}
		}
	}
}

func TestNew(t *testing.T) { // P4.3
	for _, size := range sizes() {
		for _, key := range keys() {
			h := hash(t, size, count(key))
			if n := h.Len(); n != 0 {
				t.Errorf("size %d, key %d: Len of no bytes = %d", size, key, n)
			}
			if got, want := h.Sum(), told(size, count(key), nil); !bytes.Equal(got, want) {
				t.Errorf("size %d, key %d: Sum of no bytes = %x, not %x", size, key, got, want)
			}
		}
	}
}

func TestWrite(t *testing.T) { // P4.3
	for _, size := range sizes() {
		for _, key := range keys() {
			for _, n := range lengths() {
				h, b := hash(t, size, count(key)), some(n, uint32(size))
				write(t, h, b)
				if h.Len() != int64(n) {
					t.Errorf("size %d, key %d: Len of %d bytes = %d", size, key, n, h.Len())
				}
				if got, want := h.Sum(), told(size, count(key), b); !bytes.Equal(got, want) {
					t.Errorf("size %d, key %d: Sum of %d bytes = %x, not %x", size, key, n, got, want)
				}
			}
		}
	}
}

func TestSumIsAskedOnTheWay(t *testing.T) { // P4.3, P4.4
	b := some(260, 5)
	for _, key := range keys() {
		for _, step := range []int{1, 7, 63, 64, 65, 128} {
			h := hash(t, 32, b[:key])
			for at := 0; ; at = min(at+step, len(b)) {
				want := told(32, b[:key], b[:at])
				for range 2 {
					if got := h.Sum(); !bytes.Equal(got, want) {
						t.Fatalf("key %d, by %d: Sum of %d bytes = %x, not %x", key, step, at, got, want)
					}
				}
				if h.Len() != int64(at) {
					t.Fatalf("key %d, by %d: Len of %d bytes = %d", key, step, at, h.Len())
				}
				if at == len(b) {
					break
				}
				write(t, h, b[at:min(at+step, len(b))])
			}
		}
	}
}

func TestCopy(t *testing.T) { // P4.3
	b := some(300, 6)
	for _, key := range []int{0, 1, 32} {
		for at := 0; at <= 130; at++ {
			h := hash(t, 31, b[:key])
			write(t, h, b[:at])
			c := h.Copy()
			if c == nil || c == h || c.Len() != int64(at) || !bytes.Equal(c.Sum(), told(31, b[:key], b[:at])) {
				t.Fatalf("key %d: a copy behind %d bytes is another", key, at)
			}
			write(t, h, b[at:200])
			if c.Len() != int64(at) || !bytes.Equal(c.Sum(), told(31, b[:key], b[:at])) {
				t.Fatalf("key %d: what is written behind %d bytes goes into the copy", key, at)
			}
			write(t, c, b[200:], b[:3])
			if h.Len() != 200 || !bytes.Equal(h.Sum(), told(31, b[:key], b[:200])) {
				t.Fatalf("key %d: what is written into a copy behind %d bytes goes into the first one", key, at)
			}
			want := told(31, b[:key], bytes.Join([][]byte{b[:at], b[200:], b[:3]}, nil))
			if c.Len() != int64(at+103) || !bytes.Equal(c.Sum(), want) || !bytes.Equal(c.Copy().Sum(), want) {
				t.Fatalf("key %d: a copy behind %d bytes does not go on", key, at)
			}
		}
	}
}

func TestTwoHashesGoApart(t *testing.T) { // P4.3
	a, b := hash(t, 32, count(4)), hash(t, 16, nil)
	for i := range 70 {
		write(t, a, []byte{byte(i)})
		write(t, b, []byte{byte(i), 9})
	}
	var twice []byte
	for i := range 70 {
		twice = append(twice, byte(i), 9)
	}
	if !bytes.Equal(a.Sum(), told(32, count(4), count(70))) || !bytes.Equal(b.Sum(), told(16, nil, twice)) {
		t.Error("one hash goes into another")
	}
}

func TestSumDoesNotHangOnCuts(t *testing.T) { // P4.4
	b := some(140, 7)
	plain, keyed := told(32, nil, b), told(20, b[:9], b)
	for i := range b {
		for j := i; j <= len(b); j++ {
			parts := [][]byte{b[:i], b[i:j], b[j:]}
			if got := blake.Sum(parts...); !bytes.Equal(got[:], plain) {
				t.Fatalf("in parts at %d, %d: %x, not %x", i, j, got, plain)
			}
			if (i+j)%5 > 0 { // some are enough: what Sum cuts, these cut just so
				continue
			}
			if got, e := blake.Keyed(20, b[:9], parts...); !bytes.Equal(got, keyed) || e != api.OK {
				t.Fatalf("with a key, in parts at %d, %d: %x, %v, not %x", i, j, got, e, keyed)
			}
			h := hash(t, 20, b[:9])
			write(t, h, parts...)
			if got := h.Sum(); !bytes.Equal(got, keyed) {
				t.Fatalf("in writes at %d, %d: %x, not %x", i, j, got, keyed)
			}
		}
	}
}

func TestEmptyPartsDoNotCount(t *testing.T) { // P4.2, P4.4
	for _, n := range lengths() {
		b := some(n, 8)
		var parts [][]byte
		h := hash(t, 32, b[:min(n, 3)])
		for i := range b {
			parts = append(parts, nil, b[i:i+1], []byte{})
			write(t, h, nil, b[i:i+1], []byte{})
		}
		parts = append(parts, nil, []byte{})
		write(t, h, nil, []byte{})
		if got := blake.Sum(parts...); !bytes.Equal(got[:], told(32, nil, b)) {
			t.Errorf("%d bytes, one by one: %x", n, got)
		}
		want := told(32, b[:min(n, 3)], b)
		if got, e := blake.Keyed(32, b[:min(n, 3)], parts...); !bytes.Equal(got, want) || e != api.OK {
			t.Errorf("%d bytes, one by one, with a key: %x, %v, not %x", n, got, e, want)
		}
		if !bytes.Equal(h.Sum(), want) || h.Len() != int64(n) {
			t.Errorf("%d bytes, one by one, in writes: %x, not %x", n, h.Sum(), want)
		}
	}
	none := blake.Sum()
	for i, got := range [][32]byte{blake.Sum(nil), blake.Sum([]byte{}), blake.Sum(nil, []byte{}, nil)} {
		if got != none {
			t.Errorf("row %d: the sum of nothing is %x", i, got)
		}
	}
}

func TestSumHasItsSize(t *testing.T) { // P4.4
	for size := 1; size <= 32; size++ {
		for _, n := range lengths() {
			b, _ := blake.Keyed(size, count(n%33), count(n))
			h := hash(t, size, count(n%33))
			write(t, h, count(n))
			if len(b) != size || len(h.Sum()) != size {
				t.Errorf("of size %d: %d bytes and %d", size, len(b), len(h.Sum()))
			}
		}
	}
}

// roomy is bytes with spare room behind them that is no nought.
func roomy(n int) (b, room []byte) {
	room = bytes.Repeat([]byte{0xa5}, n+80)
	copy(room, count(n))
	return room[:n], room
}

func TestWhatIsHandedInIsLeft(t *testing.T) { // P4.2, P4.3
	for _, n := range lengths() {
		b, room := roomy(n)
		key, keyRoom := roomy(n % 33)
		was, keyWas := bytes.Clone(room), bytes.Clone(keyRoom)
		parts := [][]byte{b, nil, b[:n/2]}
		blake.Sum(parts...)
		if _, e := blake.Keyed(32, key, parts...); e != api.OK {
			t.Fatal(e)
		}
		h := hash(t, 32, key)
		write(t, h, parts...)
		h.Sum()
		h.Copy()
		if !bytes.Equal(room, was) || !bytes.Equal(keyRoom, keyWas) {
			t.Errorf("%d bytes that were handed in are others", n)
		}
		if len(parts) != 3 || len(parts[0]) != n || parts[1] != nil || len(parts[2]) != n/2 {
			t.Errorf("parts of %d bytes are others", n)
		}
	}
}

func TestWhatIsHandedInIsNotKept(t *testing.T) { // P4.3
	for _, n := range lengths() {
		key, b := count(n%33), count(n)
		want := told(32, key, b)
		more := told(32, key, append(count(n), 1, 2, 3))
		h := hash(t, 32, key)
		clear(key)
		write(t, h, b)
		clear(b)
		c := h.Copy()
		if !bytes.Equal(h.Sum(), want) || !bytes.Equal(c.Sum(), want) {
			t.Errorf("%d bytes that were written are asked for later", n)
		}
		write(t, h, []byte{1, 2, 3})
		if !bytes.Equal(h.Sum(), more) {
			t.Errorf("%d bytes that were written count no more", n)
		}
	}
}

func TestAnswersAreNew(t *testing.T) { // P4.2, P4.3
	h := hash(t, 32, count(3))
	write(t, h, count(100))
	want := told(32, count(3), count(100))
	for range 3 {
		s := h.Sum()
		if !bytes.Equal(s, want) {
			t.Fatalf("Sum = %x, not %x", s, want)
		}
		clear(s[:cap(s)])
	}
	a, _ := blake.Keyed(32, count(3), count(100))
	b, _ := blake.Keyed(32, count(3), count(100))
	clear(a[:cap(a)])
	if !bytes.Equal(b, want) {
		t.Error("two answers share their bytes")
	}
}

func FuzzBlake(f *testing.F) { // P4.2, P4.3, P4.4: whatever it is given: what the document tells
	f.Add([]byte("key"), []byte("some bytes"), []byte("and more"), 32)
	f.Add([]byte{}, count(64), count(65), 1)
	f.Add(count(33), count(1), []byte{}, 33)
	f.Add(count(32), []byte{}, []byte{}, 0)
	f.Fuzz(func(t *testing.T, key, a, b []byte, size int) {
		h, e := blake.New(size, key)
		s, g := blake.Keyed(size, key, a, b)
		if size < 1 || size > 32 || len(key) > 32 {
			if h != nil || s != nil || e != api.ErrArg || g != api.ErrArg {
				t.Fatalf("%v, %v, %x, %v", h, e, s, g)
			}
			return
		}
		write(t, h, a, b)
		if want := told(size, key, append(bytes.Clone(a), b...)); !bytes.Equal(h.Sum(), want) || !bytes.Equal(s, want) {
			t.Fatalf("%x and %x, not %x", h.Sum(), s, want)
		}
	})
}
