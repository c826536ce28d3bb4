package disk_test

import (
	"bytes"
	"math"
	"math/big"
	"math/rand"
	"regexp"
	"runtime"
	"slices"
	"sort"
	"strings"
	"testing"
	"unsafe"

	"antiphon/api"
	"antiphon/disk"
)

// fileTold is a file as the document tells it.
type fileTold struct {
	name, bytes string
	sure        int
}

// diskTold is a disk as the document tells it: its files are in no order, and left is how many steps it does till it stops, or -1 if it is not to stop.
type diskTold struct {
	room  int
	files []fileTold
	left  int
	dead  bool
}

func emptyTold(room int) *diskTold { return &diskTold{room: room, left: -1} }

func (m *diskTold) copied() *diskTold {
	other := *m
	other.files = slices.Clone(m.files)
	return &other
}

func (m *diskTold) find(name string) int {
	return slices.IndexFunc(m.files, func(f fileTold) bool { return f.name == name })
}

func (m *diskTold) used() int {
	n := 0
	for _, f := range m.files {
		n += len(f.bytes)
	}
	return n
}

func (m *diskTold) sorted() []fileTold {
	all := slices.Clone(m.files)
	sort.Slice(all, func(i, j int) bool { return all[i].name < all[j].name })
	return all
}

var nameTold = regexp.MustCompile(`^[a-z0-9.]{1,20}$`)

// deed is a call that may be a step, or Stop.
type deed struct {
	call     string
	name, to string
	bytes    string
	n        int
}

// refusedTold tells why a deed is none, but for the disk's being dead.
func (m *diskTold) refusedTold(x deed) api.Errno {
	if x.call == "Stop" {
		if x.n < 0 {
			return api.ErrArg
		}
		return api.OK
	}
	if !nameTold.MatchString(x.name) || x.call == "Rename" && !nameTold.MatchString(x.to) {
		return api.ErrName
	}
	at := m.find(x.name)
	if x.call == "Append" {
		if m.used()+len(x.bytes) > m.room {
			return api.ErrRoom
		}
		return api.OK
	}
	if at < 0 {
		return api.ErrNone
	}
	if x.call == "Cut" && (x.n < 0 || x.n > len(m.files[at].bytes)) {
		return api.ErrRange
	}
	return api.OK
}

// doTold does a deed as the document tells it.
func (m *diskTold) doTold(x deed) api.Errno {
	if e := m.refusedTold(x); e != api.OK {
		return e
	}
	if m.dead {
		return api.ErrDead
	}
	if x.call == "Stop" {
		m.left = x.n
		return api.OK
	}
	if m.left == 0 {
		m.dead = true
		return api.ErrDead
	}
	if m.left > 0 {
		m.left--
	}
	at := m.find(x.name)
	switch x.call {
	case "Append":
		if at < 0 {
			m.files = append(m.files, fileTold{x.name, x.bytes, 0})
		} else {
			m.files[at].bytes += x.bytes
		}
	case "Sync":
		m.files[at].sure = len(m.files[at].bytes)
	case "Cut":
		m.files[at].bytes = m.files[at].bytes[:x.n]
		if m.files[at].sure > x.n {
			m.files[at].sure = x.n
		}
	case "Remove":
		m.files = slices.Delete(m.files, at, at+1)
	case "Rename":
		f := m.files[at]
		f.name = x.to
		m.files = slices.Delete(m.files, at, at+1)
		m.files = slices.DeleteFunc(m.files, func(f fileTold) bool { return f.name == x.to })
		m.files = append(m.files, f)
	}
	return api.OK
}

// crashTold is what a crash leaves, as the document tells it.
func (m *diskTold) crashTold(picks ...int) *diskTold {
	left := emptyTold(m.room)
	for i, f := range m.sorted() {
		pick := int64(0)
		if i < len(picks) {
			pick = int64(picks[i])
		}
		n := f.sure + int(new(big.Int).Mod(big.NewInt(pick), big.NewInt(int64(len(f.bytes)-f.sure+1))).Int64())
		left.files = append(left.files, fileTold{f.name, f.bytes[:n], n})
	}
	return left
}

// do does a deed.
func do(d *disk.Disk, x deed) api.Errno {
	switch x.call {
	case "Append":
		return d.Append(x.name, []byte(x.bytes))
	case "Sync":
		return d.Sync(x.name)
	case "Cut":
		return d.Cut(x.name, x.n)
	case "Remove":
		return d.Remove(x.name)
	case "Rename":
		return d.Rename(x.name, x.to)
	default:
		return d.Stop(x.n)
	}
}

// made is a disk that stands as is told, made by as few calls as may be.
func (m *diskTold) made(t *testing.T) *disk.Disk {
	t.Helper()
	d := fresh(t, m.room)
	for _, f := range m.files {
		does(t, d, deed{call: "Append", name: f.name, bytes: f.bytes[:f.sure]})
		does(t, d, deed{call: "Sync", name: f.name})
		does(t, d, deed{call: "Append", name: f.name, bytes: f.bytes[f.sure:]})
	}
	if m.dead {
		does(t, d, deed{call: "Stop", n: 0})
		if e := d.Append("any", nil); e != api.ErrDead {
			t.Fatalf("a disk that stops with a step answers %v", e)
		}
	} else if m.left >= 0 {
		does(t, d, deed{call: "Stop", n: m.left})
	}
	return d
}

func fresh(t *testing.T, room int) *disk.Disk {
	t.Helper()
	d, e := disk.New(room)
	if d == nil || e != api.OK {
		t.Fatalf("New(%d) = %v, %v", room, d, e)
	}
	return d
}

func does(t *testing.T, d *disk.Disk, all ...deed) {
	t.Helper()
	for _, x := range all {
		if e := do(d, x); e != api.OK {
			t.Fatalf("%+v = %v", x, e)
		}
	}
}

func refuses(t *testing.T, d *disk.Disk, x deed, why api.Errno) {
	t.Helper()
	if e := do(d, x); e != why {
		t.Errorf("%+v = %v, not %v", x, e, why)
	}
}

// shows asks whether what can be seen of a disk is what is told of it.
func shows(t *testing.T, d *disk.Disk, m *diskTold) {
	t.Helper()
	var names []string
	for _, f := range m.sorted() {
		names = append(names, f.name)
		if b, e := d.Read(f.name); string(b) != f.bytes || e != api.OK {
			t.Fatalf("Read(%s) = %q, %v, not %q", f.name, b, e, f.bytes)
		}
		if n, e := d.Sure(f.name); n != f.sure || e != api.OK {
			t.Fatalf("Sure(%s) = %d, %v, not %d", f.name, n, e, f.sure)
		}
	}
	if got := d.Names(); !slices.Equal(got, names) {
		t.Fatalf("Names = %q, not %q", got, names)
	}
	if n := d.Used(); n != m.used() {
		t.Fatalf("Used = %d, not %d", n, m.used())
	}
	if is := d.Dead(); is != m.dead {
		t.Fatalf("Dead = %v", is)
	}
}

// stands asks whether a disk stands as is told, also where that can't be seen.
func stands(t *testing.T, d *disk.Disk, m *diskTold) {
	t.Helper()
	shows(t, d, m)
	if other := m.made(t); !disk.Same(d, other) || !disk.Same(other, d) {
		t.Fatalf("it does not stand as is told: %+v", m)
	}
}

// nones are disks that are not there.
func nones() []*disk.Disk {
	refused, _ := disk.New(0)
	var nobody *disk.Disk
	crashed, _ := nobody.Crash(1)
	return []*disk.Disk{nil, {}, new(disk.Disk), refused, nobody.Copy(), new(disk.Disk).Copy(), crashed}
}

// some makes n bytes that look like none of a kind, the same each time.
func some(n int, seed uint32) []byte {
	b := make([]byte, n)
	for i := range b {
		seed = seed*1664525 + 1013904223
		b[i] = byte(seed >> 24)
	}
	return b
}

// steps is one of each kind, that a disk with a file a of at least one byte does.
func steps() []deed {
	return []deed{
		{call: "Append", name: "a", bytes: "x"},
		{call: "Append", name: "a"},
		{call: "Append", name: "new", bytes: "x"},
		{call: "Append", name: "new"},
		{call: "Sync", name: "a"},
		{call: "Cut", name: "a", n: 1},
		{call: "Cut", name: "a"},
		{call: "Remove", name: "a"},
		{call: "Rename", name: "a", to: "b"},
		{call: "Rename", name: "a", to: "a"},
		{call: "Rename", name: "a", to: "new"},
	}
}

// wrongs is what a disk with the files a and b and room for 40 bytes refuses, whether it is dead or not, and why.
func wrongs() map[deed]api.Errno {
	return map[deed]api.Errno{
		{call: "Append", name: "", bytes: "x"}:                        api.ErrName,
		{call: "Append", name: "A", bytes: strings.Repeat("x", 41)}:   api.ErrName,
		{call: "Append", name: "a", bytes: strings.Repeat("x", 41)}:   api.ErrRoom,
		{call: "Append", name: "new", bytes: strings.Repeat("x", 41)}: api.ErrRoom,
		{call: "Sync", name: "a b"}:                                   api.ErrName,
		{call: "Sync", name: "c"}:                                     api.ErrNone,
		{call: "Cut", name: "a/b", n: -1}:                             api.ErrName,
		{call: "Cut", name: "c", n: -1}:                               api.ErrNone,
		{call: "Cut", name: "c", n: 0}:                                api.ErrNone,
		{call: "Cut", name: "a", n: -1}:                               api.ErrRange,
		{call: "Cut", name: "a", n: math.MinInt}:                      api.ErrRange,
		{call: "Cut", name: "a", n: 41}:                               api.ErrRange,
		{call: "Cut", name: "a", n: math.MaxInt}:                      api.ErrRange,
		{call: "Remove", name: "-"}:                                   api.ErrName,
		{call: "Remove", name: "c"}:                                   api.ErrNone,
		{call: "Rename", name: "A", to: "b"}:                          api.ErrName,
		{call: "Rename", name: "a", to: "B"}:                          api.ErrName,
		{call: "Rename", name: "c", to: "B"}:                          api.ErrName,
		{call: "Rename", name: "", to: ""}:                            api.ErrName,
		{call: "Rename", name: "c", to: "a"}:                          api.ErrNone,
		{call: "Rename", name: "c", to: "c"}:                          api.ErrNone,
		{call: "Stop", n: -1}:                                         api.ErrArg,
		{call: "Stop", n: math.MinInt}:                                api.ErrArg,
	}
}

// two is a disk with two files, each with bytes that are not sure.
func two() *diskTold {
	return &diskTold{room: 40, files: []fileTold{{"b", "1234", 1}, {"a", "hiyou", 2}}, left: -1}
}

func TestExamples(t *testing.T) { // P7.1 to P7.4
	d := fresh(t, 8)
	does(t, d, deed{call: "Append", name: "a", bytes: "hi"}, deed{call: "Sync", name: "a"}, deed{call: "Append", name: "a", bytes: "you"})
	refuses(t, d, deed{call: "Append", name: "b", bytes: "1234"}, api.ErrRoom)
	if b, e := d.Read("a"); string(b) != "hiyou" || e != api.OK {
		t.Errorf("Read(a) = %q, %v", b, e)
	}
	for _, row := range []struct {
		picks []int
		want  string
	}{{nil, "hi"}, {[]int{2}, "hiyo"}, {[]int{4}, "hi"}, {[]int{-1}, "hiyou"}} {
		c, e := d.Crash(row.picks...)
		if b, why := c.Read("a"); string(b) != row.want || e != api.OK || why != api.OK {
			t.Errorf("behind Crash(%v): %q, %v, %v", row.picks, b, e, why)
		}
	}
	does(t, d, deed{call: "Stop", n: 1}, deed{call: "Append", name: "a", bytes: "x"})
	if d.Dead() {
		t.Error("it is dead ahead of the step with which it stops")
	}
	refuses(t, d, deed{call: "Sync", name: "a"}, api.ErrDead)
	if !d.Dead() {
		t.Error("it is not dead")
	}
	refuses(t, d, deed{call: "Cut", name: "a", n: 9}, api.ErrRange)
}

func TestNew(t *testing.T) { // P7.1
	for _, room := range []int{math.MinInt, -1 << 24, -1, 0, 1<<24 + 1, 1<<24 + 2, 1 << 32, 1<<32 + 1, math.MaxInt} {
		if d, e := disk.New(room); d != nil || e != api.ErrArg {
			t.Errorf("New(%d) = %v, %v", room, d, e)
		}
	}
	for _, room := range []int{1, 2, 8, 1 << 16, 1<<24 - 1, 1 << 24} {
		stands(t, fresh(t, room), emptyTold(room))
	}
	if disk.Same(fresh(t, 1), fresh(t, 2)) {
		t.Error("disks of another room are the same")
	}
}

// asksName asks each call that takes a name, on a disk without files, whether it takes this one.
func asksName(t *testing.T, name string, is bool) {
	t.Helper()
	d := fresh(t, 8)
	none, there := api.ErrNone, api.OK
	if !is {
		none, there = api.ErrName, api.ErrName
	}
	for _, x := range []deed{
		{call: "Sync", name: name}, {call: "Cut", name: name}, {call: "Cut", name: name, n: 1}, {call: "Remove", name: name},
		{call: "Rename", name: name, to: "a"}, {call: "Rename", name: "a", to: name}, {call: "Rename", name: name, to: name},
	} {
		refuses(t, d, x, none)
	}
	if b, e := d.Read(name); b != nil || e != none {
		t.Errorf("Read(%q) = %q, %v", name, b, e)
	}
	if n, e := d.Sure(name); n != 0 || e != none {
		t.Errorf("Sure(%q) = %d, %v", name, n, e)
	}
	refuses(t, d, deed{call: "Append", name: name, bytes: "x"}, there)
	if is != slices.Equal(d.Names(), []string{name}) {
		t.Errorf("behind Append(%q) there are %q", name, d.Names())
	}
	does(t, d, deed{call: "Append", name: "a", bytes: "x"})
	refuses(t, d, deed{call: "Rename", name: "a", to: name}, there)
}

func TestWhatIsAName(t *testing.T) { // P7.1, P7.3
	for _, s := range []string{"a", "z", "0", "9", ".", "..", "...", ".s", "r.tmp", "r.s0000000001", "az09.", "0.0", "con", "l.0000000001"} {
		asksName(t, s, true)
	}
	for _, s := range []string{
		"", " ", "a ", " a", "A", "Z", "aA", "a-b", "a_b", "a/b", "/", "\\", "a\x00", "\x00", "a\n", "\n", "`", "{", ":", "-", "+", ",",
		"é", "aé", "ａ", "０", "．", "٣", "ß", "ı", "K", "\xff", "a\xff", "a\x80", "\xc3", "\ufffd", "\U00010400", "𝟘", "\u212a", "\u0130",
	} {
		asksName(t, s, false)
	}
	for n := range 45 {
		asksName(t, strings.Repeat("a", n), 1 <= n && n <= 20)
		asksName(t, strings.Repeat(".", n), 1 <= n && n <= 20)
		asksName(t, strings.Repeat("é", n), false)
	}
	asksName(t, strings.Repeat("a", 1<<20), false)
	for c := range 256 {
		for _, around := range [][2]string{{"", ""}, {"a", ""}, {"", "a"}, {"a", "a"}, {strings.Repeat("a", 19), ""}, {"", strings.Repeat("9", 19)}} {
			s := around[0] + string([]byte{byte(c)}) + around[1]
			asksName(t, s, nameTold.MatchString(s))
		}
	}
	for r := rune(0); r < 0x3000; r++ {
		asksName(t, string(r), nameTold.MatchString(string(r)))
	}
}

func TestAppend(t *testing.T) { // P7.1
	d, m := fresh(t, 40), emptyTold(40)
	for _, x := range []deed{
		{call: "Append", name: "b", bytes: "12"},
		{call: "Append", name: "a"},
		{call: "Append", name: "a"},
		{call: "Append", name: "a", bytes: "x\x00\xff"},
		{call: "Sync", name: "a"},
		{call: "Append", name: "a", bytes: "y"},
		{call: "Append", name: "b"},
		{call: "Append", name: "b", bytes: "3"},
		{call: "Append", name: "a"},
	} {
		if e, want := do(d, x), m.doTold(x); e != want || e != api.OK {
			t.Fatalf("%+v = %v", x, e)
		}
		stands(t, d, m)
	}
	if n, e := d.Sure("a"); n != 3 || e != api.OK {
		t.Errorf("Sure(a) = %d, %v", n, e)
	}
	does(t, d, deed{call: "Remove", name: "a"})
	refuses(t, d, deed{call: "Sync", name: "a"}, api.ErrNone)
	does(t, d, deed{call: "Append", name: "a", bytes: "z"})
	if n, e := d.Sure("a"); n != 0 || e != api.OK {
		t.Errorf("of a file that is there anew are sure: %d, %v", n, e)
	}
}

func TestEmptyIsNil(t *testing.T) { // P7.1: also bytes that are nil make a file
	for _, b := range [][]byte{nil, {}} {
		d := fresh(t, 1)
		if e := d.Append("a", b); e != api.OK || !slices.Equal(d.Names(), []string{"a"}) {
			t.Errorf("Append(a) = %v; there are %q", e, d.Names())
		}
		if got, e := d.Read("a"); len(got) != 0 || e != api.OK {
			t.Errorf("Read(a) = %q, %v", got, e)
		}
	}
}

func TestRoom(t *testing.T) { // P7.1: what is let go can be had again
	for _, room := range []int{1, 2, 3, 8, 100, 4097} {
		d := fresh(t, room)
		a := strings.Repeat("a", room)
		refuses(t, d, deed{call: "Append", name: "a", bytes: a + "a"}, api.ErrRoom)
		stands(t, d, emptyTold(room))
		does(t, d, deed{call: "Append", name: "a", bytes: a})
		refuses(t, d, deed{call: "Append", name: "a", bytes: "x"}, api.ErrRoom)
		refuses(t, d, deed{call: "Append", name: "b", bytes: "x"}, api.ErrRoom)
		if len(d.Names()) != 1 || d.Used() != room {
			t.Errorf("what is refused makes a file: %q, %d", d.Names(), d.Used())
		}
		does(t, d, deed{call: "Append", name: "a"}, deed{call: "Append", name: "b"})
		for n := room; n >= 0; n /= 2 {
			does(t, d, deed{call: "Cut", name: "a", n: n})
			refuses(t, d, deed{call: "Append", name: "b", bytes: a[n:] + "x"}, api.ErrRoom)
			does(t, d, deed{call: "Append", name: "b", bytes: a[n:]})
			if d.Used() != room {
				t.Errorf("Used = %d of %d", d.Used(), room)
			}
			refuses(t, d, deed{call: "Append", name: "c", bytes: "x"}, api.ErrRoom)
			does(t, d, deed{call: "Remove", name: "b"})
			if d.Used() != n {
				t.Errorf("Used = %d, not %d", d.Used(), n)
			}
			if n == 0 {
				break
			}
		}
		does(t, d, deed{call: "Append", name: "c", bytes: a}, deed{call: "Rename", name: "a", to: "c"}, deed{call: "Append", name: "d", bytes: a})
		refuses(t, d, deed{call: "Append", name: "c", bytes: "x"}, api.ErrRoom)
		stands(t, d, &diskTold{room: room, files: []fileTold{{"d", a, 0}, {"c", "", 0}}, left: -1})
	}
}

func TestMostRoom(t *testing.T) { // P7.1
	const most = 1 << 24
	d := fresh(t, most)
	all := some(most+1, 7)
	if e := d.Append("a", all); e != api.ErrRoom {
		t.Errorf("Append of one byte too many = %v", e)
	}
	if e := d.Append("a", all[:most]); e != api.OK {
		t.Errorf("Append = %v", e)
	}
	if e := d.Append("b", all[:1]); e != api.ErrRoom {
		t.Errorf("Append behind that = %v", e)
	}
	if b, e := d.Read("a"); !bytes.Equal(b, all[:most]) || e != api.OK || d.Used() != most {
		t.Errorf("Read = %d bytes, %v", len(b), e)
	}
	for pick, want := range map[int]int{0: 0, most: most, most - 1: most - 1, most + 1: 0, -1: most, -most: 1, math.MaxInt: math.MaxInt % (most + 1)} {
		c, e := d.Crash(pick)
		if b, why := c.Read("a"); !bytes.Equal(b, all[:want]) || e != api.OK || why != api.OK {
			t.Errorf("Crash(%d) leaves %d bytes", pick, len(b))
		}
	}
	if c := d.Copy(); !disk.Same(c, d) {
		t.Error("a copy is another")
	}
}

func TestSync(t *testing.T) { // P7.1
	d, m := two().made(t), two()
	for _, x := range []deed{
		{call: "Sync", name: "a"}, {call: "Sync", name: "a"}, {call: "Append", name: "a", bytes: "!"}, {call: "Append", name: "c"},
		{call: "Sync", name: "c"}, {call: "Append", name: "c", bytes: "cc"}, {call: "Sync", name: "c"}, {call: "Sync", name: "b"}, {call: "Sync", name: "a"},
	} {
		if e, want := do(d, x), m.doTold(x); e != want || e != api.OK {
			t.Fatalf("%+v = %v", x, e)
		}
		stands(t, d, m)
	}
}

func TestCut(t *testing.T) { // P7.1
	for n := -2; n <= 8; n++ {
		for sure := range 7 {
			m := &diskTold{room: 20, files: []fileTold{{"a", "123456", sure}, {"b", "12", 1}}, left: -1}
			d := m.made(t)
			if n < 0 || n > 6 {
				refuses(t, d, deed{call: "Cut", name: "a", n: n}, api.ErrRange)
				stands(t, d, m)
				continue
			}
			does(t, d, deed{call: "Cut", name: "a", n: n})
			m.files[0] = fileTold{"a", "123456"[:n], min(sure, n)}
			stands(t, d, m)
			does(t, d, deed{call: "Append", name: "a", bytes: "xyz"})
			m.files[0].bytes += "xyz"
			stands(t, d, m)
			does(t, d, deed{call: "Sync", name: "a"}, deed{call: "Cut", name: "a", n: n}, deed{call: "Cut", name: "a", n: n})
			m.files[0] = fileTold{"a", "123456"[:n], n}
			stands(t, d, m)
		}
	}
}

func TestRemove(t *testing.T) { // P7.1
	d, m := two().made(t), two()
	does(t, d, deed{call: "Remove", name: "a"})
	m.files = m.files[:1]
	stands(t, d, m)
	refuses(t, d, deed{call: "Remove", name: "a"}, api.ErrNone)
	does(t, d, deed{call: "Append", name: "a"}, deed{call: "Remove", name: "b"}, deed{call: "Remove", name: "a"})
	stands(t, d, emptyTold(40))
}

func TestRename(t *testing.T) { // P7.1: in place of one that is called so, with its own sure bytes
	for _, row := range []struct {
		from, to string
		want     []fileTold
	}{
		{"a", "c", []fileTold{{"b", "1234", 1}, {"c", "hiyou", 2}}},
		{"a", "b", []fileTold{{"b", "hiyou", 2}}},
		{"b", "a", []fileTold{{"a", "1234", 1}}},
		{"a", "a", []fileTold{{"a", "hiyou", 2}, {"b", "1234", 1}}},
		{"b", "b", []fileTold{{"a", "hiyou", 2}, {"b", "1234", 1}}},
		{"b", "0", []fileTold{{"a", "hiyou", 2}, {"0", "1234", 1}}},
	} {
		d := two().made(t)
		does(t, d, deed{call: "Rename", name: row.from, to: row.to})
		m := &diskTold{room: 40, files: row.want, left: -1}
		stands(t, d, m)
		if row.from != row.to {
			refuses(t, d, deed{call: "Rename", name: row.from, to: row.to}, api.ErrNone)
		}
		stands(t, d, m)
	}
}

func TestWhatIsRefused(t *testing.T) { // P7.1, P7.2, P7.5: changes nothing, also of one that is to stop, or dead
	for x, why := range wrongs() {
		for _, left := range []int{-1, 0, 1, 2, math.MaxInt} {
			m := two()
			m.left = left
			d := m.made(t)
			for range 3 {
				refuses(t, d, x, why)
				stands(t, d, m)
			}
		}
		m := two()
		m.dead = true
		d := m.made(t)
		refuses(t, d, x, why)
		stands(t, d, m)
	}
}

func TestDead(t *testing.T) { // P7.2, P7.3, P7.5
	m := two()
	m.dead = true
	d := m.made(t)
	for range 2 {
		for _, x := range append(steps(), deed{call: "Stop"}, deed{call: "Stop", n: 1}, deed{call: "Stop", n: math.MaxInt}) {
			refuses(t, d, x, api.ErrDead)
			stands(t, d, m)
		}
	}
	if _, e := d.Read("A"); e != api.ErrName {
		t.Errorf("Read(A) = %v", e)
	}
	if _, e := d.Sure("c"); e != api.ErrNone {
		t.Errorf("Sure(c) = %v", e)
	}
}

func TestStop(t *testing.T) { // P7.2: of each kind of step, with what is refused between
	for n := range 5 {
		for _, kind := range steps() {
			m := two()
			d := m.made(t)
			does(t, d, deed{call: "Stop", n: n})
			m.left = n
			for range n {
				for _, x := range []deed{{call: "Sync", name: "nobody"}, {call: "Append", name: "A"}, {call: "Cut", name: "a", n: 99}} {
					if e := do(d, x); e == api.OK || e == api.ErrDead || d.Dead() {
						t.Fatalf("%+v = %v", x, e)
					}
				}
				x := deed{call: "Append", name: "a", bytes: "z"}
				does(t, d, x)
				m.doTold(x)
				stands(t, d, m)
			}
			if d.Dead() {
				t.Fatalf("dead behind %d steps", n)
			}
			refuses(t, d, kind, api.ErrDead)
			m.dead = true
			stands(t, d, m)
			refuses(t, d, kind, api.ErrDead)
			stands(t, d, m)
		}
	}
}

func TestEachStepCounts(t *testing.T) { // P7.1, P7.2: also one that changes nothing
	for _, kind := range append(steps(), deed{call: "Cut", name: "a", n: 5}, deed{call: "Rename", name: "b", to: "b"}) {
		d := two().made(t)
		does(t, d, deed{call: "Stop", n: 1}, kind)
		if d.Dead() {
			t.Errorf("%+v is a step too many", kind)
		}
		refuses(t, d, deed{call: "Append", name: "x"}, api.ErrDead)
		if !d.Dead() {
			t.Errorf("%+v is no step", kind)
		}
	}
}

func TestAskingIsNoStep(t *testing.T) { // P7.2, P7.3, P7.4
	m := two()
	m.left = 0
	d := m.made(t)
	for range 3 {
		d.Read("a")
		d.Sure("a")
		d.Names()
		d.Used()
		d.Dead()
		d.Copy()
		d.Crash(1, 2)
		disk.Same(d, d)
		stands(t, d, m)
	}
}

func TestStopAnew(t *testing.T) { // P7.2: what is said last holds
	d := two().made(t)
	does(t, d, deed{call: "Stop", n: 0}, deed{call: "Stop", n: 2}, deed{call: "Sync", name: "a"})
	m := two()
	m.files[1].sure, m.left = 5, 1
	stands(t, d, m)
	does(t, d, deed{call: "Stop", n: 1}, deed{call: "Sync", name: "a"}, deed{call: "Stop", n: math.MaxInt}, deed{call: "Sync", name: "b"}, deed{call: "Stop"})
	refuses(t, d, deed{call: "Sync", name: "a"}, api.ErrDead)
	m.files[0].sure, m.left, m.dead = 4, -1, true
	stands(t, d, m)
}

func TestCrash(t *testing.T) { // P7.4, P7.5: each number of bytes, of them sure, each pick
	for size := range 7 {
		for sure := range size + 1 {
			m := &diskTold{room: 20, files: []fileTold{{"a", "123456"[:size], sure}}, left: -1}
			d := m.made(t)
			seen := map[int]struct{}{}
			for pick := -20; pick <= 20; pick++ {
				c, e := d.Crash(pick)
				if c == nil || e != api.OK {
					t.Fatalf("Crash(%d) = %v, %v", pick, c, e)
				}
				stands(t, c, m.crashTold(pick))
				seen[c.Used()] = struct{}{}
			}
			if len(seen) != size-sure+1 {
				t.Errorf("of %d bytes, %d of them sure, crashes leave %d numbers", size, sure, len(seen))
			}
			for _, pick := range []int{math.MinInt, math.MinInt + 1, math.MaxInt - 1, math.MaxInt, 1 << 31, -1 << 31, 1 << 32} {
				c, _ := d.Crash(pick)
				stands(t, c, m.crashTold(pick))
			}
			c, _ := d.Crash()
			stands(t, c, m.crashTold(0))
			stands(t, d, m)
		}
	}
}

func TestPicks(t *testing.T) { // P7.4: one a file, in order of names, also of one that is sure; those that are missing are 0
	m := &diskTold{room: 100, files: []fileTold{
		{"b", "bbbb", 0}, {"10", "tententen", 3}, {"a.b", "dotdot", 6}, {"a", "", 0}, {"9", "nine", 4}, {"z", "zzz", 1}, {"ab", "abab", 2}, {".", "dot", 0},
	}, left: -1}
	d := m.made(t)
	order := []string{".", "10", "9", "a", "a.b", "ab", "b", "z"}
	if !slices.Equal(d.Names(), order) {
		t.Errorf("Names = %q", d.Names())
	}
	for n := range 12 {
		for base := -3; base <= 3; base++ {
			var picks []int
			for i := range n {
				picks = append(picks, base+i)
			}
			was := slices.Clone(picks)
			c, e := d.Crash(picks...)
			if e != api.OK || !slices.Equal(picks, was) {
				t.Fatalf("Crash(%v) = %v; %v", was, e, picks)
			}
			stands(t, c, m.crashTold(picks...))
		}
	}
	for i, name := range order {
		at := m.find(name)
		picks := make([]int, len(order))
		picks[i] = 1
		c, _ := d.Crash(picks...)
		for _, f := range m.files {
			n, _ := c.Sure(f.name)
			want := f.sure
			if f == m.files[at] && f.sure < len(f.bytes) {
				want++
			}
			if n != want {
				t.Errorf("Crash(%v): of %s are left %d, not %d", picks, f.name, n, want)
			}
		}
	}
}

func TestCrashOfOneThatStops(t *testing.T) { // P7.4: what is left goes on, and is not to stop
	for _, left := range []int{-1, 0, 1, 5} {
		m := two()
		m.left = left
		d := m.made(t)
		c, e := d.Crash(1, 1)
		if e != api.OK {
			t.Fatalf("Crash = %v", e)
		}
		told := m.crashTold(1, 1)
		stands(t, c, told)
		for range 8 {
			does(t, c, deed{call: "Sync", name: "a"})
		}
		stands(t, c, told)
		stands(t, d, m)
	}
	m := two()
	m.dead = true
	d := m.made(t)
	c, e := d.Crash(-1, -1)
	if e != api.OK || c.Dead() {
		t.Fatalf("Crash of a dead one = %v", e)
	}
	stands(t, c, m.crashTold(-1, -1))
	does(t, c, deed{call: "Append", name: "a", bytes: "x"}, deed{call: "Stop", n: 1})
	stands(t, d, m)
}

func TestCrashOfNothing(t *testing.T) { // P7.4: of no files, of empty ones, of the same room
	d := fresh(t, 5)
	c, e := d.Crash(1, 2, 3)
	if e != api.OK || c == d {
		t.Fatalf("Crash = %v", e)
	}
	stands(t, c, emptyTold(5))
	does(t, c, deed{call: "Append", name: "a", bytes: "12345"})
	refuses(t, c, deed{call: "Append", name: "a", bytes: "6"}, api.ErrRoom)
	c, _ = c.Crash()
	stands(t, c, &diskTold{room: 5, files: []fileTold{{"a", "", 0}}, left: -1})
	does(t, c, deed{call: "Append", name: "a", bytes: "12345"})
}

func TestCrashesAreApart(t *testing.T) { // P7.4
	m := two()
	d := m.made(t)
	one, _ := d.Crash(-1, -1)
	other, _ := d.Crash(-1, -1)
	told := m.crashTold(-1, -1)
	does(t, one, deed{call: "Append", name: "a", bytes: "one"}, deed{call: "Cut", name: "b", n: 1}, deed{call: "Append", name: "b", bytes: "ONE"}, deed{call: "Append", name: "c", bytes: "c"})
	does(t, one, deed{call: "Stop"})
	refuses(t, one, deed{call: "Sync", name: "a"}, api.ErrDead)
	stands(t, other, told)
	stands(t, d, m)
	does(t, d, deed{call: "Append", name: "a", bytes: "two"}, deed{call: "Cut", name: "b", n: 0}, deed{call: "Append", name: "b", bytes: "TWO"}, deed{call: "Remove", name: "a"})
	stands(t, other, told)
}

func TestCopy(t *testing.T) { // P7.4
	for _, left := range []int{-1, 0, 1, 4, math.MaxInt} {
		m := two()
		m.left = left
		d := m.made(t)
		c := d.Copy()
		if c == d {
			t.Fatal("a copy is the disk itself")
		}
		stands(t, c, m)
		for _, pair := range [][2]*disk.Disk{{d, d.Copy()}, {d.Copy(), d}} {
			goes, stays := pair[0].Copy(), pair[1]
			if left != -1 {
				does(t, goes, deed{call: "Stop", n: 9})
			}
			does(t, goes,
				deed{call: "Append", name: "a", bytes: "more"}, deed{call: "Cut", name: "b", n: 2}, deed{call: "Append", name: "b", bytes: "xy"},
				deed{call: "Sync", name: "b"}, deed{call: "Append", name: "c", bytes: "c"}, deed{call: "Rename", name: "a", to: "d"}, deed{call: "Remove", name: "c"},
				deed{call: "Stop"})
			refuses(t, goes, deed{call: "Sync", name: "b"}, api.ErrDead)
			stands(t, stays, m)
			stands(t, goes, &diskTold{room: 40, files: []fileTold{{"b", "12xy", 4}, {"d", "hiyoumore", 2}}, dead: true})
		}
		stands(t, d, m)
	}
	m := two()
	m.dead = true
	d := m.made(t)
	c := d.Copy()
	stands(t, c, m)
	refuses(t, c, deed{call: "Sync", name: "a"}, api.ErrDead)
}

func TestCopyOfManySteps(t *testing.T) { // P7.4: bytes that are put behind one are not put behind the other, whatever room they have
	d, m := fresh(t, 10000), emptyTold(10000)
	for i := range 300 {
		x := deed{call: "Append", name: "a", bytes: string(some(i%7, uint32(i)))}
		y := deed{call: "Append", name: "a", bytes: "other"}
		c, told := d.Copy(), m.copied()
		does(t, d, x)
		m.doTold(x)
		does(t, c, y)
		told.doTold(y)
		shows(t, c, told)
		shows(t, d, m)
		crashed, _ := d.Crash(-1)
		does(t, crashed, y)
		shows(t, d, m)
	}
}

func TestSame(t *testing.T) { // P7.4
	base := func(change func(m *diskTold)) *diskTold {
		m := two()
		change(m)
		return m
	}
	all := []*diskTold{
		base(func(m *diskTold) {}),
		base(func(m *diskTold) { m.room = 41 }),
		base(func(m *diskTold) { m.files[0].name = "c" }),
		base(func(m *diskTold) { m.files[0].bytes = "1235" }),
		base(func(m *diskTold) { m.files[0].bytes = "123" }),
		base(func(m *diskTold) { m.files[0].bytes = "12345" }),
		base(func(m *diskTold) { m.files[0].bytes = "0234" }),
		base(func(m *diskTold) { m.files[0].bytes = "1234\x00" }),
		base(func(m *diskTold) { m.files[0].sure = 0 }),
		base(func(m *diskTold) { m.files[0].sure = 2 }),
		base(func(m *diskTold) { m.files[1].sure = 5 }),
		base(func(m *diskTold) { m.files[0].name, m.files[1].name = "a", "b" }),
		base(func(m *diskTold) { m.files = m.files[:1] }),
		base(func(m *diskTold) { m.files = m.files[1:] }),
		base(func(m *diskTold) { m.files = nil }),
		base(func(m *diskTold) { m.files = append(m.files, fileTold{"c", "", 0}) }),
		base(func(m *diskTold) { m.files = []fileTold{{"a", "", 0}} }),
		base(func(m *diskTold) { m.files = []fileTold{{"b", "", 0}} }),
		base(func(m *diskTold) { m.left = 0 }),
		base(func(m *diskTold) { m.left = 1 }),
		base(func(m *diskTold) { m.left = 2 }),
		base(func(m *diskTold) { m.left = math.MaxInt }),
		base(func(m *diskTold) { m.dead = true }),
		base(func(m *diskTold) { m.dead, m.files[0].sure = true, 4 }),
		base(func(m *diskTold) { m.files, m.dead = nil, true }),
	}
	for i, a := range all {
		for j, b := range all {
			if is := disk.Same(a.made(t), b.made(t)); is != (i == j) {
				t.Errorf("Same(%+v, %+v) = %v", a, b, is)
			}
		}
		d := a.made(t)
		if !disk.Same(d, d) || !disk.Same(d, d.Copy()) {
			t.Errorf("%+v is another than itself", a)
		}
		for _, none := range nones() {
			if disk.Same(d, none) || disk.Same(none, d) {
				t.Errorf("%+v is like none", a)
			}
		}
	}
	for _, a := range nones() {
		for _, b := range nones() {
			if !disk.Same(a, b) {
				t.Error("no disk is like none")
			}
		}
	}
}

func TestSameByOtherWays(t *testing.T) { // P7.4: however it came to stand so
	a, b := fresh(t, 40), fresh(t, 40)
	does(t, a, deed{call: "Append", name: "x", bytes: "hi"}, deed{call: "Sync", name: "x"}, deed{call: "Rename", name: "x", to: "a"}, deed{call: "Append", name: "a", bytes: "you!"}, deed{call: "Cut", name: "a", n: 5})
	does(t, b, deed{call: "Append", name: "b", bytes: "b"}, deed{call: "Append", name: "a", bytes: "hi"}, deed{call: "Remove", name: "b"}, deed{call: "Sync", name: "a"}, deed{call: "Append", name: "a"}, deed{call: "Append", name: "a", bytes: "you"})
	if !disk.Same(a, b) {
		t.Error("those that stand alike are others")
	}
	does(t, a, deed{call: "Stop", n: 1}, deed{call: "Sync", name: "a"})
	does(t, b, deed{call: "Stop", n: 3}, deed{call: "Sync", name: "a"}, deed{call: "Stop", n: 0})
	if !disk.Same(a, b) {
		t.Error("those that are to stop alike are others")
	}
	does(t, a, deed{call: "Stop", n: 1}, deed{call: "Sync", name: "a"})
	refuses(t, a, deed{call: "Sync", name: "a"}, api.ErrDead)
	if disk.Same(a, b) {
		t.Error("a dead one is like one that is to stop at once")
	}
	refuses(t, b, deed{call: "Cut", name: "a"}, api.ErrDead)
	if !disk.Same(a, b) {
		t.Error("those that are both dead are others")
	}
}

func TestNone(t *testing.T) { // P7.1 to P7.4
	for _, d := range nones() {
		all := append(steps(), deed{call: "Stop"}, deed{call: "Stop", n: 3})
		for x := range wrongs() {
			all = append(all, x)
		}
		for _, x := range all {
			refuses(t, d, x, api.ErrNil)
		}
		for _, name := range []string{"a", "", "A"} {
			if b, e := d.Read(name); b != nil || e != api.ErrNil {
				t.Errorf("Read(%q) = %q, %v", name, b, e)
			}
			if n, e := d.Sure(name); n != 0 || e != api.ErrNil {
				t.Errorf("Sure(%q) = %d, %v", name, n, e)
			}
		}
		if d.Names() != nil || d.Used() != 0 || d.Dead() || d.Copy() != nil {
			t.Error("of none there is something")
		}
		for _, picks := range [][]int{nil, {1}, {1, 2, 3}} {
			if c, e := d.Crash(picks...); c != nil || e != api.ErrNil {
				t.Errorf("Crash(%v) = %v, %v", picks, c, e)
			}
		}
	}
}

func TestReadAndSureRefuse(t *testing.T) { // P7.3
	d := two().made(t)
	for name, why := range map[string]api.Errno{"": api.ErrName, "A": api.ErrName, "aaaaaaaaaaaaaaaaaaaaa": api.ErrName, "c": api.ErrNone, "aa": api.ErrNone, ".": api.ErrNone, "aaaaaaaaaaaaaaaaaaaa": api.ErrNone} {
		if b, e := d.Read(name); b != nil || e != why {
			t.Errorf("Read(%q) = %q, %v", name, b, e)
		}
		if n, e := d.Sure(name); n != 0 || e != why {
			t.Errorf("Sure(%q) = %d, %v", name, n, e)
		}
	}
	stands(t, d, two())
}

func TestManyFiles(t *testing.T) { // P7.3: all names, in order of their bytes
	const n = 3000
	d, m := fresh(t, 1<<16), emptyTold(1<<16)
	mix := rand.New(rand.NewSource(5))
	const signs = ".0123456789abcdefghijklmnopqrstuvwxyz"
	for range n {
		b := make([]byte, 1+mix.Intn(20))
		for i := range b {
			b[i] = signs[mix.Intn(len(signs))]
		}
		x := deed{call: "Append", name: string(b), bytes: string(b[:mix.Intn(len(b))])}
		if e, want := do(d, x), m.doTold(x); e != want || e != api.OK {
			t.Fatalf("%+v = %v", x, e)
		}
	}
	stands(t, d, m)
	c, _ := d.Crash(5, 4, 3)
	stands(t, c, m.crashTold(5, 4, 3))
}

func TestManyAppends(t *testing.T) { // P7.1
	const n = 1 << 18
	d := fresh(t, n)
	all := some(n, 9)
	for i := range all {
		if e := d.Append("a", all[i:i+1]); e != api.OK {
			t.Fatalf("Append = %v", e)
		}
	}
	if b, e := d.Read("a"); !bytes.Equal(b, all) || e != api.OK {
		t.Errorf("Read = %d bytes, %v", len(b), e)
	}
	refuses(t, d, deed{call: "Append", name: "a", bytes: "x"}, api.ErrRoom)
}

func TestWhatIsHandedIn(t *testing.T) { // P7.1: is left as it was, and is not kept
	for n := range 40 {
		room := append(some(n, 5), bytes.Repeat([]byte{0xa5}, 100)...)
		was := bytes.Clone(room)
		d := fresh(t, 200)
		for _, name := range []string{"a", "b", "a"} {
			if e := d.Append(name, room[:n]); e != api.OK {
				t.Fatalf("Append = %v", e)
			}
		}
		does(t, d, deed{call: "Append", name: "b", bytes: "more"}, deed{call: "Cut", name: "a", n: n}, deed{call: "Append", name: "a", bytes: "more"})
		if !bytes.Equal(room, was) {
			t.Errorf("%d bytes that were handed in are changed", n)
		}
		clear(room)
		for _, name := range []string{"a", "b"} {
			if b, e := d.Read(name); string(b) != string(was[:n])+"more" || e != api.OK {
				t.Errorf("%d bytes that were handed in are kept: %q", n, b)
			}
		}
	}
}

func TestNamesThatAreHandedIn(t *testing.T) { // P7.1: their memory is not kept
	var handed [][]byte
	hand := func(s string) string {
		b := []byte(s)
		handed = append(handed, b)
		return unsafe.String(&b[0], len(b))
	}
	d := fresh(t, 100)
	does(t, d,
		deed{call: "Append", name: hand("a"), bytes: "hi"}, deed{call: "Append", name: hand("a"), bytes: "you"}, deed{call: "Sync", name: hand("a")},
		deed{call: "Cut", name: hand("a"), n: 4}, deed{call: "Append", name: hand("b"), bytes: "b"}, deed{call: "Rename", name: hand("b"), to: hand("c")},
		deed{call: "Append", name: hand("d")}, deed{call: "Rename", name: hand("d"), to: hand("d")}, deed{call: "Append", name: hand("e"), bytes: "e"}, deed{call: "Rename", name: hand("e"), to: hand("d")})
	d.Read(hand("a"))
	d.Sure(hand("a"))
	for _, b := range handed {
		for i := range b {
			b[i] = 'x'
		}
	}
	stands(t, d, &diskTold{room: 100, files: []fileTold{{"a", "hiyo", 4}, {"c", "b", 0}, {"d", "e", 0}}, left: -1})
}

func TestAnswersAreNew(t *testing.T) { // P7.3, P7.4
	m := two()
	d := m.made(t)
	for range 2 {
		b, _ := d.Read("a")
		again, _ := d.Read("a")
		b = b[:cap(b)]
		for i := range b {
			b[i] = '!'
		}
		if string(again) != "hiyou" {
			t.Error("two answers share bytes")
		}
		_ = append(again, "more than there is"...)
		names := d.Names()
		other := d.Names()
		names[0], names[1] = "x", "y"
		if !slices.Equal(other, []string{"a", "b"}) {
			t.Error("two answers share names")
		}
		stands(t, d, m)
	}
	does(t, d, deed{call: "Append", name: "a", bytes: "!!"})
	b, _ := d.Read("a")
	does(t, d, deed{call: "Cut", name: "a", n: 1}, deed{call: "Append", name: "a", bytes: "0123456789"})
	if string(b) != "hiyou!!" {
		t.Errorf("an answer changes by what is done behind it: %q", b)
	}
}

// held is how many bytes are held in memory.
func held() uint64 {
	runtime.GC()
	runtime.GC()
	var s runtime.MemStats
	runtime.ReadMemStats(&s)
	return s.HeapAlloc
}

func TestWhatIsCutIsNotHeld(t *testing.T) { // P7.1: a disk holds no more than what its files have
	const room, files = 1 << 22, 32
	d := fresh(t, room)
	all := some(room, 3)
	ahead := held()
	for i := range files {
		name := "f" + string('a'+rune(i%26)) + string('a'+rune(i/26))
		if e := d.Append(name, all[:room-i]); e != api.OK {
			t.Fatalf("Append = %v", e)
		}
		does(t, d, deed{call: "Cut", name: name, n: i % 2})
	}
	if more := int64(held()) - int64(ahead); more > 4*room {
		t.Errorf("%d bytes are held of %d", more, d.Used())
	}
	runtime.KeepAlive(d)
	runtime.KeepAlive(all)
}

// anyDeed is a deed for a disk of some room, right or wrong.
func anyDeed(mix *rand.Rand, room int) deed {
	names := []string{"a", "b", "c", "a.b", "0", "a", "b", "", "A", "zzzzzzzzzzzzzzzzzzzz", "zzzzzzzzzzzzzzzzzzzzz"}
	calls := []string{"Append", "Append", "Append", "Append", "Sync", "Sync", "Cut", "Cut", "Remove", "Rename", "Rename"}
	x := deed{call: calls[mix.Intn(len(calls))], name: names[mix.Intn(len(names))]}
	switch x.call {
	case "Append":
		x.bytes = string(some(mix.Intn(room/2+2), mix.Uint32()))
	case "Cut":
		x.n = mix.Intn(room+2) - 1
		if mix.Intn(2) == 0 {
			x.n = mix.Intn(4)
		}
	case "Rename":
		x.to = names[mix.Intn(len(names))]
	}
	if mix.Intn(12) == 0 {
		x = deed{call: "Stop", n: mix.Intn(8) - 1}
	}
	return x
}

// keeps asks what a crash leaves, and that it is what the document promises.
func keeps(t *testing.T, d *disk.Disk, m *diskTold, picks ...int) *disk.Disk {
	t.Helper()
	c, e := d.Crash(picks...)
	if c == nil || e != api.OK {
		t.Fatalf("Crash(%v) = %v", picks, e)
	}
	stands(t, c, m.crashTold(picks...))
	if !slices.Equal(c.Names(), d.Names()) {
		t.Fatalf("a crash leaves %q of %q", c.Names(), d.Names())
	}
	for _, name := range d.Names() {
		whole, _ := d.Read(name)
		sure, _ := d.Sure(name)
		left, _ := c.Read(name)
		if !bytes.HasPrefix(whole, left) || len(left) < sure {
			t.Fatalf("of %q, %d of them sure, a crash leaves %q", whole, sure, left)
		}
	}
	for _, more := range [][]int{nil, {1, 1, 1, 1, 1}, {-1, -1, -1, -1}} {
		again, _ := c.Crash(more...)
		if !disk.Same(again, c) {
			t.Fatal("a crash of a crash leaves another")
		}
	}
	return c
}

func TestWalks(t *testing.T) { // P7.1 to P7.5: whatever is done, in whatever order
	told := map[api.Errno]int{}
	for seed := range 400 {
		mix := rand.New(rand.NewSource(int64(seed)))
		room := 1 + mix.Intn(30)
		d, m := fresh(t, room), emptyTold(room)
		for range 80 {
			x := anyDeed(mix, room)
			was, wasTold := d.Copy(), m.copied()
			e, want := do(d, x), m.doTold(x)
			if e != want {
				t.Fatalf("seed %d: %+v = %v, not %v", seed, x, e, want)
			}
			told[e]++
			stands(t, d, m)
			stands(t, was, wasTold)
			if e != api.OK && e != api.ErrDead && !disk.Same(was, d) {
				t.Fatalf("seed %d: %+v is refused, and changes it", seed, x)
			}
			if mix.Intn(5) == 0 {
				picks := make([]int, mix.Intn(7))
				for i := range picks {
					picks[i] = mix.Intn(40) - 20
				}
				c := keeps(t, d, m, picks...)
				if m.dead {
					d, m = c, m.crashTold(picks...)
				}
			}
		}
	}
	for _, e := range []api.Errno{api.OK, api.ErrArg, api.ErrName, api.ErrNone, api.ErrRange, api.ErrRoom, api.ErrDead} {
		if told[e] < 100 {
			t.Errorf("%v came %d times", e, told[e])
		}
	}
}

func TestEachStep(t *testing.T) { // P7.2, P7.5: a disk that stops at each step of a walk leaves what was done ahead of it
	for seed := range 40 {
		mix := rand.New(rand.NewSource(int64(seed)))
		var walk []deed
		for range 40 {
			if x := anyDeed(mix, 20); x.call != "Stop" {
				walk = append(walk, x)
			}
		}
		for stop := range len(walk) {
			d, m := fresh(t, 20), emptyTold(20)
			does(t, d, deed{call: "Stop", n: stop})
			m.left = stop
			done := 0
			for _, x := range walk {
				e := do(d, x)
				if e != m.doTold(x) {
					t.Fatalf("seed %d: %+v = %v", seed, x, e)
				}
				if e == api.OK {
					done++
				}
			}
			if done > stop || d.Dead() && done != stop {
				t.Fatalf("seed %d: of %d steps it did %d", seed, stop, done)
			}
			stands(t, d, m)
			keeps(t, d, m, seed, stop, done)
		}
	}
}

func FuzzDisk(f *testing.F) { // P7.1 to P7.5: whatever it is given: what the document tells
	f.Add(8, "a", "b", []byte("hi"), 2, -1, 1)
	f.Add(1, "", "a", []byte{}, 0, 0, 0)
	f.Add(1<<24, "r.s0000000001", "r.tmp", []byte("\x00\xff"), -1, math.MaxInt, math.MinInt)
	f.Add(0, "A", "aaaaaaaaaaaaaaaaaaaaa", []byte(nil), 9, 3, -7)
	f.Fuzz(func(t *testing.T, room int, name, to string, b []byte, n, stop, pick int) {
		d, e := disk.New(room)
		if room < 1 || room > 1<<24 {
			if d != nil || e != api.ErrArg {
				t.Fatalf("New(%d) = %v, %v", room, d, e)
			}
			return
		}
		m := emptyTold(room)
		for _, x := range []deed{
			{call: "Append", name: name, bytes: string(b)},
			{call: "Sync", name: name},
			{call: "Append", name: to, bytes: string(b)},
			{call: "Append", name: name, bytes: string(b)},
			{call: "Cut", name: name, n: n},
			{call: "Append", name: name, bytes: to},
			{call: "Stop", n: stop},
			{call: "Rename", name: name, to: to},
			{call: "Append", name: name, bytes: name},
			{call: "Cut", name: to, n: n},
			{call: "Append", name: to, bytes: name},
			{call: "Remove", name: name},
			{call: "Sync", name: to},
			{call: "Remove", name: to},
		} {
			if e, want := do(d, x), m.doTold(x); e != want {
				t.Fatalf("%+v = %v, not %v", x, e, want)
			}
			stands(t, d, m)
			stands(t, d.Copy(), m)
			keeps(t, d, m, pick, n)
			keeps(t, d, m, n, pick, 1)
		}
	})
}
