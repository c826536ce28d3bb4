package hmac_test

import (
	"bytes"
	"encoding/hex"
	"math"
	"slices"
	"strings"
	"testing"

	"antiphon/api"
	"antiphon/blake"
	"antiphon/hmac"
)

// blockTold is a key's block as the document tells it.
func blockTold(key []byte) []byte {
	b := bytes.Clone(key)
	if len(key) > 64 {
		s := blake.Sum(key)
		b = s[:]
	}
	for len(b) < 64 {
		b = append(b, 0)
	}
	return b
}

// told is the tag as the document tells it: all bytes laid first, then summed.
func told(key, text []byte) []byte {
	var in, out []byte
	for _, c := range blockTold(key) {
		in, out = append(in, c^0x36), append(out, c^0x5c)
	}
	inner := blake.Sum(append(in, text...))
	whole := blake.Sum(append(out, inner[:]...))
	return whole[:]
}

// keysTold is all keys of a key and a label, as the document tells them.
func keysTold(key []byte, label string) []byte {
	var all, ahead []byte
	for n := 1; n <= 255; n++ {
		ahead = told(key, append(append(bytes.Clone(ahead), label...), byte(n)))
		all = append(all, ahead...)
	}
	return all
}

// count makes n bytes: 1, 2, 3 and so on, up to 251, then from 1 on again; none of them is a nought.
func count(n int) []byte {
	b := make([]byte, n)
	for i := range b {
		b[i] = byte(i%251 + 1)
	}
	return b
}

// some makes n bytes that look like none of a kind, the same each time.
func some(n int, seed uint32) []byte {
	b := make([]byte, n)
	for i := range b {
		seed = seed*1664525 + 1013904223
		b[i] = byte(seed >> 24)
	}
	return b
}

// lengths are those of keys and texts: around blocks, and around a sum.
func lengths() []int {
	return []int{0, 1, 2, 31, 32, 33, 62, 63, 64, 65, 66, 127, 128, 129, 192, 200, 1000}
}

func tag(key []byte, parts ...[]byte) []byte {
	s := hmac.Tag(key, parts...)
	return s[:]
}

func short(t *testing.T, key []byte, n int, parts ...[]byte) []byte {
	t.Helper()
	b, e := hmac.Short(key, n, parts...)
	if e != api.OK {
		t.Fatalf("Short(%d bytes, %d) = %v", len(key), n, e)
	}
	return b
}

func derive(t *testing.T, key []byte, label string, n int) []byte {
	t.Helper()
	b, e := hmac.Derive(key, label, n)
	if e != api.OK || len(b) != n {
		t.Fatalf("Derive(%d bytes, %d bytes, %d) = %d bytes, %v", len(key), len(label), n, len(b), e)
	}
	return b
}

func begin(t *testing.T, key []byte) *hmac.Mac {
	t.Helper()
	m := hmac.New(key)
	if m == nil {
		t.Fatalf("New(%d bytes) is none", len(key))
	}
	return m
}

func write(t *testing.T, m *hmac.Mac, parts ...[]byte) {
	t.Helper()
	for _, p := range parts {
		if e := m.Write(p); e != api.OK {
			t.Fatalf("Write(%d bytes) = %v", len(p), e)
		}
	}
}

func check(t *testing.T, want bool, key, tag []byte, parts ...[]byte) {
	t.Helper()
	if is, e := hmac.Check(key, tag, parts...); is != want || e != api.OK {
		t.Errorf("Check(%d bytes, %x) = %v, %v, not %v", len(key), tag, is, e, want)
	}
}

func TestExamples(t *testing.T) { // P5.1, P5.2
	k, hi := []byte("k"), []byte("hi")
	if b, e := hmac.Short(nil, 7); b != nil || e != api.ErrArg {
		t.Errorf("Short(none, 7) = %x, %v", b, e)
	}
	if is, e := hmac.Check(nil, nil); is || e != api.ErrArg {
		t.Errorf("Check(none, none) = %v, %v", is, e)
	}
	if b, e := hmac.Derive(nil, "x", 8161); b != nil || e != api.ErrArg {
		t.Errorf("Derive(none, x, 8161) = %x, %v", b, e)
	}
	check(t, true, k, short(t, k, 12, hi), hi)
	if b, e := hmac.Derive(k, "x", 0); len(b) != 0 || e != api.OK {
		t.Errorf("Derive(k, x, 0) = %x, %v", b, e)
	}
}

func TestTagsThatAreKnown(t *testing.T) { // P5.1
	texts := [5]int{0, 63, 64, 65, 200}
	for _, c := range []struct {
		key  int
		want [5]string
	}{
		{0, [5]string{"eaf4bb25938f4d20e72656bbbc7a9bf63c0c18537333c35bdb67db1402661acd", "130044af623572cc1232b53fdc896b43fd88a8576de326c5e1b51a3122a8cb7c", "ff4d11af392539acd2fa184d26465c0e126e8ee252bd03f5a54747bb22fb0385", "b0db0daa18f22a78cc9a93e0702183ccd8888f64ce069e1c3dc4701a3f921857", "640e28d50e609ce21449b8b015ffee4b7e001cca36caf5362d8b606a647f486c"}},
		{1, [5]string{"79425d94ebbe6cb0677d3c6ede74f6cc21b700e140440176dd9587146f4746b3", "1e1622e32815bdd5bf6b769f95563be843459455fd1166eb57db419cd457068a", "1a5b9d39ccaae4becdbc221f49e8dfcc3f84fff09ee353802c038774951da1cd", "4720e125cbfbabb05f497e7b7e1c1c6c8c659611f6fb2d28454d42f7ad4ca70b", "cac7d60a7e52ee480391ea4c6d5287bf4f11402151b8d7599aedd528d7064e52"}},
		{32, [5]string{"415e9b4d3980426d4035d9a83fea764b343f7268672ebf9a667a6c308967024a", "96050ab23b46d32f3f7fd4853cb56bb3f52313bdebccbc5a04efe4c2f5ca6ff1", "e461212ab46562b53acd7e64f6c7ba3c7deacf9d3b17f9e2a51329041cea79f9", "1b881afd7f59752309b9abd9d3c3cde2bee12daaabccfd2a666bf47167a8040b", "79f82493aecf632ea43454d887e11c8cc2ee1fff0826745179b3d231865aedff"}},
		{33, [5]string{"5ce5186d0797776708fe191c8c5d4f98444e2863cd8615eb8c3833b050d37dbd", "5fbf78a1011b7927bc8979ec5d02186f63998731f85662f18107bf3a6b6b7796", "449c4f1de8106bbe120eb30297f047a0533e08c214a5f85c11e5b619c4ab7655", "a157b8d66ed0a1a4f7d073a7c2ce5680211db542caae93f45a664656e0558347", "cab44eb2a7a1910e031bc901892b3e765c3ebe033f9aa58290ba5039b7df7f73"}},
		{63, [5]string{"33015d43ef22a38e057d075b98ff09077adab90e3918fe598c6e07496decbaa9", "2def2ab259c76364e2fb1b50f28e1d0ea2d9b20f7bb0bc2f779cb98dc884d39f", "4ae8d5e12d699341d0684f5abdbed47607da6cceae9c73bbfbce76d62516e301", "305ab8a6d72ce3df6ba9e89c065f602bb8a1e6f26c85e8654b22af5a9780463a", "38dd4348f6860b0b428ea5af2b73eda2d18a7d19374be5f3961548b4ed159a21"}},
		{64, [5]string{"71538c31b1d4e5d3b7b03f9579904f45ff45ec61fe737940de42ebf3747f3300", "405f2f8aa1dd19620fcf40fc21a5bead3bdd8ba430a4b9e2ea33b721b747e88c", "9b309b08b44a73cde28c342ea4de53394c8fce03e8916fa10e8a2130bbf89cc6", "5973a9d634fe4a14404add9a36833dca4c055e5473b4e00003b8c9917e663e0f", "9cb0f453ed10fd99239b43092d97bf14a23e0bb54a5dc5ca5f67ceb675e7cf03"}},
		{65, [5]string{"ba8b98351a466fbd84d17ad59e310e7e9cff60feb25108c16b7b5383936bf9c9", "6a7112c5c9e6fc204fe2457c9add6dcb407c4db9371b7bceccb4b26dea9e9033", "0e925c8d6c8c9babffb0a2cfe10115713d3154d744f7c7fb2aadef7cba54b49e", "30cdbb915585b1aee46e9957d9de45d4f45a835544f82481e791ec7e0ac01d72", "e9b4fe0ce325b99e53554405364555269cc0e59f81e8ab25d2945a7a14f5484b"}},
		{128, [5]string{"3e65f1605ca39be04bff7d81131f0b2ce5285b05e0ca7162f7dde0541352c163", "f495a78474521514736db1062475879fbc6f66be6a9396f0e2225f88b9506907", "bc895134e3c17859019f6411a5c0c4e0200032a5ba003ca2acee1a2ea25bfa54", "19850137abb7c0b3e61cfe25841991bcbbc7ec77943e7d8bec5365db8f11f18d", "597707d1a72de3304471ce4c8c614b5ba1821d34ffa8dff9f12e7f5623dea46e"}},
		{200, [5]string{"d4abfcad6e911b012e857c24d2e8bf47248e50fa975bea9cb52343532fe11489", "adb79b79474d3ec9cd3ed95f416fcae93b3c626676dd6f176bc7ea0cffacd7b8", "49c598705b6df020b4ada12714163e6934da4d913069f2da158934c8596f5ef1", "91ee96d9f81771f3d7f12b4c87381005cf1a3f689dc3d5d26620755843c2fdd0", "f7b938543860920352cbdb27c743a12f99008e9591cbd004148b56a5f3129b30"}},
		{1000, [5]string{"c0f96db99fb79d8494ec2b8a6fd940670ea2c1ee7367999cd8df99cb74181948", "679aee49d9e32600695c0715eb0d24bfa452c4655c23718fceb40a4f365baae6", "ef4680da7b5a22bf54829c224e4030136440b35e218d9b9823ab6bc0e48828d8", "a02b64bc2927a02b09e8210c315e0230af8076962a97488e02a46c14ddb7611e", "5076d1027855b1c424e32635ab365e084560345e4213c697c5e2931addc901ba"}},
	} {
		for i, n := range texts {
			if got := hex.EncodeToString(tag(count(c.key), count(n))); got != c.want[i] {
				t.Errorf("Tag(%d bytes, %d bytes) = %s, not %s", c.key, n, got, c.want[i])
			}
			m := begin(t, count(c.key))
			write(t, m, count(n))
			if got := hex.EncodeToString(m.Tag()); got != c.want[i] {
				t.Errorf("under way, key %d, %d bytes: %s, not %s", c.key, n, got, c.want[i])
			}
		}
	}
	fox := tag([]byte("key"), []byte("The quick brown fox jumps over the lazy dog"))
	if got := hex.EncodeToString(fox); got != "f93215bb90d4af4c3061cd932fb169fb8bb8a91d0b4022baea1271e1323cd9a0" {
		t.Errorf("the fox's tag = %s", got)
	}
}

func TestTagsOfMuchThatAreKnown(t *testing.T) { // P5.1
	much := count(api.MaxText)
	if got := hex.EncodeToString(tag(count(65), much)); got != "327d2ceb0d239aaef43726da3709081da2846fa27fe1217bea27965bc861446a" {
		t.Errorf("the tag of MaxText bytes = %s", got)
	}
	if got := hex.EncodeToString(tag(much, count(3))); got != "01a28f974462e50aaf029851e21e010a0fa088903083222e99ca09d39132d943" {
		t.Errorf("the tag under a key of MaxText bytes = %s", got)
	}
}

func TestTagOfAll(t *testing.T) { // P5.1, P5.3
	for key := range 202 {
		for _, n := range lengths() {
			k, b := some(key, 1), some(n, uint32(key))
			want := told(k, b)
			if got := tag(k, b); !bytes.Equal(got, want) {
				t.Errorf("Tag(%d bytes, %d bytes) = %x, not %x", key, n, got, want)
			}
			m := begin(t, k)
			write(t, m, b)
			if got := m.Tag(); !bytes.Equal(got, want) {
				t.Errorf("under way, key %d, %d bytes: %x, not %x", key, n, got, want)
			}
		}
	}
	for n := range 202 {
		for _, key := range lengths() {
			if got, want := tag(count(key), some(n, 2)), told(count(key), some(n, 2)); !bytes.Equal(got, want) {
				t.Errorf("Tag(%d bytes, %d bytes) = %x, not %x", key, n, got, want)
			}
		}
	}
}

func TestNoParts(t *testing.T) { // P5.1
	for _, key := range lengths() {
		k := count(key)
		want := told(k, nil)
		for i, parts := range [][][]byte{nil, {}, {nil}, {{}}, {nil, {}, nil}} {
			if got := tag(k, parts...); !bytes.Equal(got, want) {
				t.Errorf("key %d, row %d: Tag = %x, not %x", key, i, got, want)
			}
			if got := short(t, k, 9, parts...); !bytes.Equal(got, want[:9]) {
				t.Errorf("key %d, row %d: Short = %x, not %x", key, i, got, want[:9])
			}
			check(t, true, k, want, parts...)
		}
	}
}

func TestEachByteCounts(t *testing.T) { // P5.1
	for _, key := range []int{1, 32, 63, 64, 65, 128, 200} {
		k, text := count(key), count(66)
		seen := map[string]bool{string(tag(k, text)): true}
		note := func(what string, at int, b []byte) {
			if seen[string(b)] {
				t.Errorf("key %d: byte %d of the %s changes nothing", key, at, what)
			}
			seen[string(b)] = true
		}
		for i := range k {
			other := count(key)
			other[i] ^= 0x80
			note("key", i, tag(other, text))
		}
		for i := range text {
			other := count(66)
			other[i] ^= 1
			note("text", i, tag(k, other))
		}
	}
}

func TestShort(t *testing.T) { // P5.1
	for _, key := range lengths() {
		k, text := count(key), some(key, 3)
		want := told(k, text)
		for n := 8; n <= 32; n++ {
			if got := short(t, k, n, text); !bytes.Equal(got, want[:n]) {
				t.Errorf("Short(%d bytes, %d) = %x, not %x", key, n, got, want[:n])
			}
		}
	}
}

func TestShortRefused(t *testing.T) { // P5.1
	for _, n := range []int{7, 33, 6, 1, 0, -1, -7, -8, -32, 34, 64, 255, 264, 1<<32 + 8, math.MinInt, math.MaxInt} {
		for _, key := range []int{0, 3, 64, 65} {
			if b, e := hmac.Short(count(key), n, count(3)); b != nil || e != api.ErrArg {
				t.Errorf("Short(%d bytes, %d) = %x, %v", key, n, b, e)
			}
		}
	}
}

func TestCheck(t *testing.T) { // P5.1
	for _, key := range lengths() {
		k, text := count(key), some(key, 4)
		want := told(k, text)
		for n := 8; n <= 32; n++ {
			check(t, true, k, want[:n], text)
			check(t, true, k, want[:n:n], text[:key/2], text[key/2:])
		}
	}
}

func TestCheckOfWrongTags(t *testing.T) { // P5.1
	k, text := count(20), count(70)
	want := told(k, text)
	for n := 8; n <= 32; n++ {
		for i := range n {
			for bit := range 8 {
				wrong := bytes.Clone(want[:n])
				wrong[i] ^= 1 << bit
				check(t, false, k, wrong, text)
			}
		}
		check(t, false, k, make([]byte, n), text)
		check(t, false, k, bytes.Repeat([]byte{0xff}, n), text)
		check(t, false, k, told(count(21), text)[:n], text)
		check(t, false, k, told(k, count(71))[:n], text)
		check(t, false, k, told(k, nil)[:n], text)
		check(t, false, k, want[:n], text, []byte{0})
		check(t, false, nil, want[:n], text)
	}
	for n := 8; n < 32; n++ {
		check(t, false, k, append(bytes.Clone(want[:n]), want[n]+1), text)
		check(t, want[n] == 0, k, append(bytes.Clone(want[:n]), 0), text)
		check(t, false, k, want[32-n:], text)
	}
	backwards := bytes.Clone(want)
	slices.Reverse(backwards)
	check(t, false, k, backwards, text)
}

func TestCheckOfNoughts(t *testing.T) { // P5.1
	k := count(64) // of no text its tag ends with a nought
	want := told(k, nil)
	if want[31] != 0 {
		t.Fatalf("the tag is %x", want)
	}
	check(t, true, k, want)
	check(t, true, k, want[:31])
	other := bytes.Clone(want)
	other[31] = 1
	check(t, false, k, other)
	other[31], other[30] = 0, 0
	check(t, false, k, other)
}

func TestCheckRefused(t *testing.T) { // P5.1
	k, text := count(20), count(70)
	right := append(told(k, text), 0, 0, 0, 0)
	for _, n := range []int{0, 1, 6, 7, 33, 34, 36} {
		if is, e := hmac.Check(k, right[:n], text); is || e != api.ErrArg {
			t.Errorf("Check of %d bytes, right as far as they go = %v, %v", n, is, e)
		}
		if is, e := hmac.Check(k, make([]byte, n), text); is || e != api.ErrArg {
			t.Errorf("Check of %d noughts = %v, %v", n, is, e)
		}
	}
	for _, tag := range [][]byte{nil, {}, make([]byte, 64), make([]byte, 264), make([]byte, 1<<16+8)} {
		if is, e := hmac.Check(nil, tag); is || e != api.ErrArg {
			t.Errorf("Check of %d bytes = %v, %v", len(tag), is, e)
		}
	}
}

func TestKeysThatAreKnown(t *testing.T) { // P5.2
	for _, c := range []struct {
		key, label       int
		first, last, sum string
	}{
		{0, 0, "88bc82e13fb03407c040dd36fdf32683e247787fc81c45f9135a01097be3049537", "8465bb1dbe5534345f160fccac59bed35b0dcd2da21e92991f71136423ff2c42b8", "8306cda91048b58f81871a561dc37e740d09d9f1bd9c7908170cf2fd2701d5e4"},
		{1, 5, "9e8ef21ff8710a50133c7bbeeaae9c9530b64f66c2db9493c855c68bcb8416263f", "a8fdc13588e0b72ba7d26d5133a640791f294e4e38b99b858b4eadb177f33ade01", "6d9576ae8e3b7dbd0180d0da8c4482ef53990aa310549117615e492c7be9c040"},
		{32, 5, "7ef8459d89d227cf303d4087bf8c24725a0da6d1414304e707bfeb962b70e9d7d9", "264ca4e12ac0dc9506e5fd04dd16eba53b97ffdd00136f8203fd31f5bfb066b001", "7dabd4dfb30a33f7fea58b9f9d36a0e72a19090ed4f725d40df2420f5a9104e7"},
		{63, 0, "e4f0d8ad7846382e110e10aa85862d113759423ce39e36b17d70ae250c00b253a4", "c7d0edac3a070e08367058bbf52b900fd943465c96d4a67ce3782867b4e0bbbc12", "edbd8d96e796bef72dbbba7f07ca5405cf594141712a216beaf0241a243035eb"},
		{64, 1, "e665f9c82c83d932ebca3a19e29553854c1bad0fa5db6d4aa52790ef092d62dfc2", "4666dce1db53a41cb0a25a3f6cb94f43429ef59fc6914126b579fd2724515899c8", "c092d25bc44bdfea98f60a74db02781437505071bd2ad6ac3b8c199f20b89388"},
		{65, 64, "3ec48429e0c31c1451b7e2de8aec54d5e4a1fc44c318d136cd481f205f5aa5b38a", "33e12d6c26c23c0932622f229a0c8cccb813948818d4ccc260b6ee6eca7c0f6325", "b171a451eda0e2c25fd57fe47d337d218c8675af0d23cd6f57c94c099cbdbdc6"},
		{200, 300, "d4689fe98c70d2b834b4ab3fe29eab59adf3685f2892a78dad51fbb04d6c33d37b", "98a1f33a28d35c1d6d54ade2a2e8f0275b6f7ae13ab54e30830b84dcf437192699", "510dbf26df2d3471475bc7c2f4346453ac54228b2f95880e6a4e44c43d18b214"},
	} {
		all := derive(t, count(c.key), string(count(c.label)), 8160)
		if got := hex.EncodeToString(all[:33]); got != c.first {
			t.Errorf("key %d, label %d: the first bytes are %s, not %s", c.key, c.label, got, c.first)
		}
		if got := hex.EncodeToString(all[8127:]); got != c.last {
			t.Errorf("key %d, label %d: the last bytes are %s, not %s", c.key, c.label, got, c.last)
		}
		if s := blake.Sum(all); hex.EncodeToString(s[:]) != c.sum {
			t.Errorf("key %d, label %d: the sum of all bytes is %x, not %s", c.key, c.label, s, c.sum)
		}
	}
	if got := hex.EncodeToString(derive(t, []byte("k"), "x", 32)); got != "a37ca857b6e9ddefa10ca1bed440788a00238a3d868c25b1528db65b8d3e38b4" {
		t.Errorf("Derive(k, x, 32) = %s", got)
	}
	if got := hex.EncodeToString(derive(t, []byte("master"), "token", 32)); got != "7af60e6bd2cf80d3c94fd701a074fcd2dc0ea7f5dadcc3e2cb347a9b7d4d816a" {
		t.Errorf("Derive(master, token, 32) = %s", got)
	}
}

func labels() []string {
	return []string{"", "x", "token", "\x00", "\x01", "\xff\xfe", strings.Repeat("ab", 32), strings.Repeat("long", 500)}
}

func TestDerive(t *testing.T) { // P5.2
	for _, key := range []int{0, 1, 63, 64, 65, 200} {
		for _, label := range labels() {
			want := keysTold(count(key), label)
			for _, n := range []int{0, 1, 31, 32, 33, 63, 64, 65, 1000, 8127, 8128, 8129, 8159, 8160} {
				if got := derive(t, count(key), label, n); !bytes.Equal(got, want[:n]) {
					t.Errorf("Derive(%d bytes, %.9q, %d) is another", key, label, n)
				}
			}
		}
	}
}

func TestDeriveRefused(t *testing.T) { // P5.2
	for _, n := range []int{-1, 8161, -8160, -32, 8162, 8192, 1 << 20, 1<<32 + 1, math.MinInt, math.MinInt32, math.MaxInt32, math.MaxInt} {
		for _, label := range []string{"", "x"} {
			if b, e := hmac.Derive(count(3), label, n); b != nil || e != api.ErrArg {
				t.Errorf("Derive(.., %q, %d) = %d bytes, %v", label, n, len(b), e)
			}
		}
	}
}

func TestKeysHangOnKeyAndLabel(t *testing.T) { // P5.2
	seen := map[string]bool{}
	for _, key := range []int{0, 1, 63, 64, 65, 200} {
		for _, label := range labels() {
			all := derive(t, count(key), label, 8160)
			for at := 0; at < len(all); at += 32 {
				if k := string(all[at : at+32]); seen[k] {
					t.Errorf("key %d, label %.9q: the key at %d was told ahead", key, label, at)
				} else {
					seen[k] = true
				}
			}
		}
	}
}

func TestFewerBytesAreTheFirstOnes(t *testing.T) { // P5.4
	key := count(40)
	all := derive(t, key, "x", 8160)
	for n := 0; n <= 8160; n++ {
		if n > 300 && n < 7900 && n%97 > 1 { // in the middle one is like the other
			continue
		}
		if got := derive(t, key, "x", n); !bytes.Equal(got, all[:n]) {
			t.Fatalf("%d bytes of keys are not the first ones of 8160", n)
		}
	}
}

func TestNoMac(t *testing.T) { // P5.3
	var none *hmac.Mac
	var zero hmac.Mac
	for i, m := range []*hmac.Mac{none, new(hmac.Mac), {}, &zero} {
		for range 2 {
			for _, b := range [][]byte{nil, {}, []byte("hi"), count(200)} {
				if e := m.Write(b); e != api.ErrNil {
					t.Errorf("row %d: Write(%d bytes) = %v", i, len(b), e)
				}
			}
			if b := m.Tag(); b != nil {
				t.Errorf("row %d: Tag = %x", i, b)
			}
			if c := m.Copy(); c != nil {
				t.Errorf("row %d: Copy is there", i)
			}
		}
	}
}

func TestNewHasNoBytes(t *testing.T) { // P5.3
	for _, key := range lengths() {
		m := begin(t, count(key))
		if got, want := m.Tag(), told(count(key), nil); !bytes.Equal(got, want) {
			t.Errorf("key %d: Tag of no bytes = %x, not %x", key, got, want)
		}
		write(t, m, nil, []byte{})
		if got, want := m.Tag(), told(count(key), nil); !bytes.Equal(got, want) {
			t.Errorf("key %d: Tag of empty writes = %x, not %x", key, got, want)
		}
	}
	if !bytes.Equal(begin(t, nil).Tag(), begin(t, []byte{}).Tag()) {
		t.Error("no key and an empty one have two tags")
	}
}

func TestTagIsAskedOnTheWay(t *testing.T) { // P5.3, P5.4
	b := some(260, 5)
	for _, key := range []int{0, 1, 63, 64, 65, 200} {
		for _, step := range []int{1, 7, 63, 64, 65, 128} {
			m := begin(t, b[:key])
			for at := 0; ; at = min(at+step, len(b)) {
				want := told(b[:key], b[:at])
				for range 2 {
					if got := m.Tag(); !bytes.Equal(got, want) {
						t.Fatalf("key %d, by %d: Tag of %d bytes = %x, not %x", key, step, at, got, want)
					}
				}
				if at == len(b) {
					break
				}
				write(t, m, b[at:min(at+step, len(b))])
			}
		}
	}
}

func TestCopy(t *testing.T) { // P5.3
	b := some(300, 6)
	for _, key := range []int{0, 1, 64, 65} {
		for at := 0; at <= 130; at++ {
			k := b[:key]
			m := begin(t, k)
			write(t, m, b[:at])
			c := m.Copy()
			if c == nil || c == m || !bytes.Equal(c.Tag(), told(k, b[:at])) {
				t.Fatalf("key %d: a copy behind %d bytes is another", key, at)
			}
			write(t, m, b[at:200])
			if !bytes.Equal(c.Tag(), told(k, b[:at])) {
				t.Fatalf("key %d: what is written behind %d bytes goes into the copy", key, at)
			}
			write(t, c, b[200:], b[:3])
			if !bytes.Equal(m.Tag(), told(k, b[:200])) {
				t.Fatalf("key %d: what is written into a copy behind %d bytes goes into the first one", key, at)
			}
			want := told(k, bytes.Join([][]byte{b[:at], b[200:], b[:3]}, nil))
			if !bytes.Equal(c.Tag(), want) || !bytes.Equal(c.Copy().Tag(), want) {
				t.Fatalf("key %d: a copy behind %d bytes does not go on", key, at)
			}
		}
	}
}

func TestTwoMacsGoApart(t *testing.T) { // P5.3
	a, b := begin(t, count(4)), begin(t, nil)
	var twice []byte
	for i := range 70 {
		write(t, a, []byte{byte(i + 1)})
		write(t, b, []byte{byte(i), 9})
		twice = append(twice, byte(i), 9)
	}
	if !bytes.Equal(a.Tag(), told(count(4), count(70))) || !bytes.Equal(b.Tag(), told(nil, twice)) {
		t.Error("one tag under way goes into another")
	}
}

func TestTagDoesNotHangOnCuts(t *testing.T) { // P5.4
	b := some(140, 7)
	for _, key := range []int{9, 65} {
		k := b[:key]
		want := told(k, b)
		for i := range b {
			for j := i; j <= len(b); j++ {
				parts := [][]byte{b[:i], b[i:j], b[j:]}
				if got := tag(k, parts...); !bytes.Equal(got, want) {
					t.Fatalf("in parts at %d, %d: %x, not %x", i, j, got, want)
				}
				if (i+j)%5 > 0 { // some are enough: what Tag cuts, these cut just so
					continue
				}
				if got := short(t, k, 20, parts...); !bytes.Equal(got, want[:20]) {
					t.Fatalf("short, in parts at %d, %d: %x, not %x", i, j, got, want[:20])
				}
				check(t, true, k, want, parts...)
				m := begin(t, k)
				write(t, m, parts...)
				if got := m.Tag(); !bytes.Equal(got, want) {
					t.Fatalf("in writes at %d, %d: %x, not %x", i, j, got, want)
				}
			}
		}
	}
}

func TestEmptyPartsDoNotCount(t *testing.T) { // P5.1, P5.3, P5.4
	for _, n := range lengths() {
		b, k := some(n, 8), count(n)
		var parts [][]byte
		for i := range b {
			parts = append(parts, nil, b[i:i+1], []byte{})
		}
		parts = append(parts, nil, []byte{})
		want := told(k, b)
		if got := tag(k, parts...); !bytes.Equal(got, want) {
			t.Errorf("%d bytes, one by one: %x, not %x", n, got, want)
		}
		if got := short(t, k, 8, parts...); !bytes.Equal(got, want[:8]) {
			t.Errorf("%d bytes, one by one, short: %x, not %x", n, got, want[:8])
		}
		check(t, true, k, want[:31], parts...)
		m := begin(t, k)
		write(t, m, parts...)
		if got := m.Tag(); !bytes.Equal(got, want) {
			t.Errorf("%d bytes, one by one, in writes: %x, not %x", n, got, want)
		}
	}
}

// same tells whether two keys have the same tags, and the same keys out of them.
func same(t *testing.T, a, b []byte) bool {
	t.Helper()
	text := count(70)
	m := begin(t, b)
	write(t, m, text)
	is, e := hmac.Check(b, short(t, a, 17, text), text)
	if e != api.OK {
		t.Fatal(e)
	}
	want := tag(a, text)
	each := []bool{
		bytes.Equal(tag(b, text), want), bytes.Equal(m.Tag(), want), is,
		bytes.Equal(short(t, b, 8, text), want[:8]),
		bytes.Equal(derive(t, a, "x", 99), derive(t, b, "x", 99)),
	}
	for _, other := range each {
		if other != each[0] {
			t.Errorf("keys of %d and %d bytes: %v", len(a), len(b), each)
		}
	}
	return each[0]
}

func TestNoughtsBehindAKey(t *testing.T) { // P5.4
	for _, n := range []int{0, 1, 31, 32, 63, 64} {
		k := count(n)
		for all := n; all <= 64; all++ {
			if !same(t, k, append(count(n), make([]byte, all-n)...)) {
				t.Errorf("a key of %d bytes has other tags than itself with noughts up to %d", n, all)
			}
		}
		for _, all := range []int{65, 66, 128} {
			if same(t, k, append(count(n), make([]byte, all-n)...)) {
				t.Errorf("a key of %d bytes has the tags of itself with noughts up to %d", n, all)
			}
		}
	}
	for n := 1; n < 64; n++ {
		if same(t, count(n), append(make([]byte, 1), count(n)...)) {
			t.Errorf("a key of %d bytes has the tags of itself with a nought ahead", n)
		}
	}
}

func TestALongKeyIsItsSum(t *testing.T) { // P5.1
	for n := range 202 {
		k := some(n, 9)
		s := blake.Sum(k)
		if is := same(t, k, s[:]); is != (n > 64) {
			t.Errorf("has a key of %d bytes the tags of its sum? %v", n, is)
		}
	}
}

// roomy is bytes with spare room behind them that is no nought.
func roomy(n int) (b, room []byte) {
	room = bytes.Repeat([]byte{0xa5}, n+160)
	copy(room, count(n))
	return room[:n], room
}

func TestWhatIsHandedInIsLeft(t *testing.T) { // P5.1, P5.2, P5.3
	for _, n := range lengths() {
		b, room := roomy(n)
		key, keyRoom := roomy(n)
		right, tagRoom := roomy(8 + n%25)
		was := bytes.Clone(room)
		tagWas := bytes.Clone(tagRoom)
		parts := [][]byte{b, nil, b[:n/2]}
		tag(key, parts...)
		short(t, key, 10, parts...)
		check(t, false, key, right, parts...)
		derive(t, key, "x", 70)
		m := begin(t, key)
		write(t, m, parts...)
		m.Tag()
		m.Copy()
		if !bytes.Equal(room, was) || !bytes.Equal(keyRoom, was) || !bytes.Equal(tagRoom, tagWas) {
			t.Errorf("%d bytes that were handed in are others", n)
		}
		if len(parts) != 3 || len(parts[0]) != n || parts[1] != nil || len(parts[2]) != n/2 {
			t.Errorf("parts of %d bytes are others", n)
		}
	}
}

func TestWhatIsHandedInIsNotKept(t *testing.T) { // P5.3
	for _, n := range lengths() {
		key, b := count(n), count(n)
		want, more := told(key, b), told(key, append(count(n), 1, 2, 3))
		m := begin(t, key)
		clear(key)
		write(t, m, b)
		clear(b)
		c := m.Copy()
		if !bytes.Equal(m.Tag(), want) || !bytes.Equal(c.Tag(), want) {
			t.Errorf("%d bytes that were written are asked for later", n)
		}
		write(t, m, []byte{1, 2, 3})
		if !bytes.Equal(m.Tag(), more) {
			t.Errorf("%d bytes that were written count no more", n)
		}
	}
}

func TestAnswersAreNew(t *testing.T) { // P5.1, P5.2, P5.3
	k, text := count(3), count(100)
	m := begin(t, k)
	write(t, m, text)
	want, all := told(k, text), keysTold(k, "x")
	for range 3 {
		for _, got := range [][]byte{m.Tag(), short(t, k, 32, text)} {
			if !bytes.Equal(got, want) {
				t.Fatalf("the tag is %x, not %x", got, want)
			}
			clear(got[:cap(got)])
		}
		d := derive(t, k, "x", 100)
		if !bytes.Equal(d, all[:100]) {
			t.Fatalf("the keys are %x, not %x", d, all[:100])
		}
		clear(d[:cap(d)])
	}
}

func TestAnswersHideNothing(t *testing.T) { // P5.1, P5.2: behind an answer's end there is no more of the tag, nor of the keys
	for n := 8; n < 32; n++ {
		b := short(t, count(3), n, count(100))
		if rest := told(count(3), count(100))[n:]; bytes.HasPrefix(b[n:cap(b)], rest[:1]) {
			t.Errorf("Short of %d bytes has more of the tag in its spare room", n)
		}
	}
	for _, n := range []int{0, 1, 31, 33} {
		b := derive(t, count(3), "x", n)
		if rest := keysTold(count(3), "x")[n:]; bytes.HasPrefix(b[n:cap(b)], rest[:1]) {
			t.Errorf("Derive of %d bytes has more of the keys in its spare room", n)
		}
	}
}

func FuzzHmac(f *testing.F) { // P5.1 to P5.4: whatever it is given: what the document tells
	f.Add([]byte("key"), []byte("some bytes"), []byte("and more"), 32)
	f.Add([]byte{}, count(64), count(65), 8)
	f.Add(count(65), count(1), []byte{}, 33)
	f.Add(count(64), []byte{}, []byte{}, -1)
	f.Fuzz(func(t *testing.T, key, a, b []byte, n int) {
		text := append(bytes.Clone(a), b...)
		want := told(key, text)
		m := begin(t, key)
		write(t, m, a, b)
		if !bytes.Equal(tag(key, a, b), want) || !bytes.Equal(m.Tag(), want) {
			t.Fatalf("%x and %x, not %x", tag(key, a, b), m.Tag(), want)
		}
		s, e := hmac.Short(key, n, a, b)
		if n < 8 || n > 32 {
			if s != nil || e != api.ErrArg {
				t.Fatalf("Short(.., %d) = %x, %v", n, s, e)
			}
		} else if !bytes.Equal(s, want[:n]) || e != api.OK {
			t.Fatalf("Short(.., %d) = %x, %v, not %x", n, s, e, want[:n])
		}
		is, e := hmac.Check(key, a, b)
		if len(a) < 8 || len(a) > 32 {
			if is || e != api.ErrArg {
				t.Fatalf("Check of %d bytes = %v, %v", len(a), is, e)
			}
		} else if is != bytes.HasPrefix(told(key, b), a) || e != api.OK {
			t.Fatalf("Check of %x = %v, %v", a, is, e)
		}
		d, e := hmac.Derive(key, string(a), n)
		if n < 0 || n > 8160 {
			if d != nil || e != api.ErrArg {
				t.Fatalf("Derive(.., %d) = %d bytes, %v", n, len(d), e)
			}
		} else if !bytes.Equal(d, keysTold(key, string(a))[:n]) || e != api.OK {
			t.Fatalf("Derive(.., %d) is another, %v", n, e)
		}
	})
}
