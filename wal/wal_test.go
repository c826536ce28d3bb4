package wal_test

import (
	"bytes"
	"encoding/binary"
	"fmt"
	"hash/crc32"
	"iter"
	"math"
	"math/rand"
	"regexp"
	"slices"
	"strconv"
	"strings"
	"testing"
	"unsafe"

	"antiphon/api"
	"antiphon/disk"
	"antiphon/wal"
)

// record is one with its number.
type record struct {
	n int64
	b string
}

// fileTold is what the document says that a log's file tells.
type fileTold struct {
	name             string
	number           int64
	tells            bool
	records          []string
	ends             []int // where each of them ends
	good, size, sure int
}

// logTold is a log as the document tells it: what there is of it is what stands on its disk, by layer 7's words.
type logTold struct {
	d    *disk.Disk
	name string
	per  int
}

// step is one of a disk's.
type step struct {
	call, name, bytes string
	n                 int
}

// countless is so many steps that none is refused, but they are counted.
const countless = math.MaxInt

func numberTold(n int64) string { return string(binary.AppendUvarint(nil, uint64(n))) }

func frameTold(b string) string {
	sealed := binary.LittleEndian.AppendUint32([]byte(b), crc32.ChecksumIEEE([]byte(b)))
	return numberTold(int64(len(sealed))) + string(sealed)
}

// fileOf is the bytes of a segment that begins with a number.
func fileOf(number int64, records ...string) string {
	all := frameTold(numberTold(number))
	for _, b := range records {
		all += frameTold(b)
	}
	return all
}

func nameOf(number int64) string { return fmt.Sprintf("l.%010d", number) }

// framesTold is the frames with which bytes begin, and where each ends.
func framesTold(b []byte) (all []string, ends []int) {
	for at := 0; ; {
		n, size := binary.Uvarint(b[at:])
		if size <= 0 || n < 4 || n > 4096+4 || string(b[at:at+size]) != numberTold(int64(n)) {
			return all, ends
		}
		from, to := at+size, at+size+int(n)
		if to > len(b) || crc32.ChecksumIEEE(b[from:to-4]) != binary.LittleEndian.Uint32(b[to-4:to]) {
			return all, ends
		}
		all, ends, at = append(all, string(b[from:to-4])), append(ends, to), to
	}
}

func readTold(d *disk.Disk, name string) fileTold {
	b, _ := d.Read(name)
	sure, _ := d.Sure(name)
	number, _ := strconv.ParseInt(name[len(name)-10:], 10, 64)
	f := fileTold{name: name, number: number, size: len(b), sure: sure}
	all, ends := framesTold(b)
	if len(all) == 0 || all[0] != numberTold(number) {
		return f
	}
	f.tells, f.good = true, ends[0]
	for i := 1; i < len(all) && len(all[i]) <= 2048; i++ {
		f.records, f.ends, f.good = append(f.records, all[i]), append(f.ends, ends[i]), ends[i]
	}
	return f
}

// files is the log's, by their numbers, rising.
func (m *logTold) files() []fileTold {
	var all []fileTold
	called := regexp.MustCompile(`^` + m.name + `\.[0-9]{10}$`)
	for _, name := range m.d.Names() {
		if called.MatchString(name) {
			all = append(all, readTold(m.d, name))
		}
	}
	slices.SortFunc(all, func(a, b fileTold) int { return int(a.number - b.number) })
	return all
}

func (m *logTold) rotten() bool {
	all := m.files()
	for i := 0; i+1 < len(all); i++ {
		f := all[i]
		if !f.tells || f.good != f.size || f.number+int64(len(f.records)) != all[i+1].number {
			return true
		}
	}
	return false
}

// does does steps, up to the first one that is refused.
func (m *logTold) does(all ...step) api.Errno {
	for _, x := range all {
		if e := stepped(m.d, x); e != api.OK {
			return e
		}
	}
	return api.OK
}

func stepped(d *disk.Disk, x step) api.Errno {
	switch x.call {
	case "Append":
		return d.Append(x.name, []byte(x.bytes))
	case "Sync":
		return d.Sync(x.name)
	case "Cut":
		return d.Cut(x.name, x.n)
	case "Remove":
		return d.Remove(x.name)
	default:
		return d.Stop(x.n)
	}
}

// open is what Open answers of a name and a Per that may be.
func (m *logTold) open() api.Errno {
	if m.rotten() {
		return api.ErrRotten
	}
	all := m.files()
	if len(all) == 0 {
		return api.OK
	}
	f := all[len(all)-1]
	if !f.tells {
		return m.does(step{call: "Remove", name: f.name})
	}
	if f.size > f.good {
		return m.does(step{call: "Cut", name: f.name, n: f.good})
	}
	return api.OK
}

func (m *logTold) ends() (first, next, sure int64) {
	all := m.files()
	if len(all) == 0 {
		return 1, 1, 0
	}
	first, next = all[0].number, all[0].number
	for _, f := range all {
		next += int64(len(f.records))
	}
	sure = first - 1
	for _, f := range all {
		for _, end := range f.ends {
			if end > f.sure {
				return first, next, sure
			}
			sure++
		}
	}
	return first, next, sure
}

func (m *logTold) put(b string) (int64, api.Errno) {
	_, next, _ := m.ends()
	if len(b) > 2048 || next > 1<<31-1 {
		return 0, api.ErrLong
	}
	all := m.files()
	anew := step{call: "Append", name: fmt.Sprintf("%s.%010d", m.name, next), bytes: fileOf(next, b)}
	if len(all) == 0 {
		return whole(next, m.does(anew))
	}
	f := all[len(all)-1]
	if len(f.records) == 0 || f.size+len(frameTold(b)) <= m.per {
		return whole(next, m.does(step{call: "Append", name: f.name, bytes: frameTold(b)}))
	}
	return whole(next, m.does(step{call: "Sync", name: f.name}, anew))
}

func whole(n int64, e api.Errno) (int64, api.Errno) {
	if e != api.OK {
		return 0, e
	}
	return n, api.OK
}

func (m *logTold) sync() api.Errno {
	all := m.files()
	if len(all) == 0 {
		return api.OK
	}
	return m.does(step{call: "Sync", name: all[len(all)-1].name})
}

func (m *logTold) drop(ahead int64) api.Errno {
	first, next, _ := m.ends()
	if ahead < first || ahead > next {
		return api.ErrRange
	}
	all := m.files()
	if len(all) == 0 {
		return api.OK
	}
	steps := []step{{call: "Sync", name: all[len(all)-1].name}}
	for _, f := range all[:len(all)-1] {
		if f.number+int64(len(f.records)) <= ahead {
			steps = append(steps, step{call: "Remove", name: f.name})
		}
	}
	return m.does(steps...)
}

// from is the records from a number on.
func (m *logTold) from(n int64) []record {
	var all []record
	for _, f := range m.files() {
		for i, b := range f.records {
			if at := f.number + int64(i); at >= n {
				all = append(all, record{at, b})
			}
		}
	}
	return all
}

func (m *logTold) names() []string {
	var all []string
	for _, f := range m.files() {
		all = append(all, f.name)
	}
	return all
}

// crashed is the log that is opened on what a crash leaves, where steps are counted.
func (m *logTold) crashed(t *testing.T, picks ...int) (*wal.Log, *logTold) {
	t.Helper()
	c, e := m.d.Crash(picks...)
	if e != api.OK {
		t.Fatalf("Crash(%v) = %v", picks, e)
	}
	l, other, e := open(t, c, m.name, m.per)
	if e != api.OK {
		t.Fatalf("behind a crash Open = %v", e)
	}
	return l, other
}

// room is a disk without files.
func room(t *testing.T, n int) *disk.Disk {
	t.Helper()
	d, e := disk.New(n)
	if e != api.OK {
		t.Fatalf("disk.New(%d) = %v", n, e)
	}
	return d
}

// with is a disk with files, none of them sure.
func with(t *testing.T, files map[string]string) *disk.Disk {
	t.Helper()
	d := room(t, 1<<20)
	for name, b := range files {
		done(t, d, step{call: "Append", name: name, bytes: b})
	}
	return d
}

func done(t *testing.T, d *disk.Disk, all ...step) {
	t.Helper()
	for _, x := range all {
		if e := stepped(d, x); e != api.OK {
			t.Fatalf("%+v = %v", x, e)
		}
	}
}

// open opens a log on a disk, and tells it on a copy of that; of both steps are counted from here on. It asks that both go alike.
func open(t *testing.T, d *disk.Disk, name string, per int) (*wal.Log, *logTold, api.Errno) {
	t.Helper()
	if !d.Dead() {
		done(t, d, step{call: "Stop", n: countless})
	}
	m := &logTold{d: d.Copy(), name: name, per: per}
	l, e := wal.Open(d, name, per)
	if want := m.open(); e != want {
		t.Fatalf("Open = %v, not %v", e, want)
	}
	if e != api.OK {
		if l != nil {
			t.Fatalf("Open = %v, and a log", e)
		}
	} else if l == nil || l.Disk() != d {
		t.Fatal("Open: no log on its disk")
	}
	if !disk.Same(d, m.d) {
		t.Fatalf("Open does other steps than are told: %q, not %q", d.Names(), m.d.Names())
	}
	if e == api.OK {
		stands(t, l, m)
	}
	return l, m, e
}

// begun is an empty log, and one as it is told.
func begun(t *testing.T, per int) (*wal.Log, *logTold) {
	t.Helper()
	l, m, _ := open(t, room(t, 1<<20), "l", per)
	return l, m
}

// gathered is what an iterator goes over.
func gathered(all iter.Seq2[int64, []byte]) []record {
	var list []record
	for n, b := range all {
		list = append(list, record{n, string(b)})
	}
	return list
}

// stands asks whether a log is as is told, in all that can be seen of it.
func stands(t *testing.T, l *wal.Log, m *logTold) {
	t.Helper()
	if !disk.Same(l.Disk(), m.d) {
		t.Fatalf("its disk is another: %q, not %q", l.Disk().Names(), m.d.Names())
	}
	first, next, sure := l.Ends()
	if f, n, s := m.ends(); first != f || next != n || sure != s {
		t.Fatalf("Ends = %d %d %d, not %d %d %d", first, next, sure, f, n, s)
	}
	if got, want := l.Files(), m.names(); !slices.Equal(got, want) {
		t.Fatalf("Files = %q, not %q", got, want)
	}
	all := m.from(0)
	for i, want := range all {
		if b, e := l.Get(want.n); string(b) != want.b || e != api.OK {
			t.Fatalf("Get(%d) = %q, %v, not %q", want.n, b, e, want.b)
		}
		if i%7 == 0 || i+3 > len(all) {
			goes(t, l, want.n, all[i:])
		}
	}
	for _, n := range []int64{math.MinInt64, -1, 0, first - 2, first - 1} {
		goes(t, l, n, all)
		if n < first {
			lacks(t, l, n)
		}
	}
	for _, n := range []int64{next, next + 1, next + 1<<31, next + 1<<32, math.MaxInt64 - 1, math.MaxInt64} {
		goes(t, l, n, nil)
		lacks(t, l, n)
	}
	if !disk.Same(l.Disk(), m.d) {
		t.Fatal("asking changes the disk")
	}
}

func goes(t *testing.T, l *wal.Log, n int64, want []record) {
	t.Helper()
	if got := gathered(l.From(n)); !slices.Equal(got, want) {
		t.Fatalf("From(%d) goes over %v, not %v", n, got, want)
	}
}

func lacks(t *testing.T, l *wal.Log, n int64) {
	t.Helper()
	if b, e := l.Get(n); b != nil || e != api.ErrRange {
		t.Fatalf("Get(%d) = %q, %v", n, b, e)
	}
}

// puts puts a record both ways, and asks that they go alike.
func puts(t *testing.T, l *wal.Log, m *logTold, b string) api.Errno {
	t.Helper()
	n, e := l.Put([]byte(b))
	if want, why := m.put(b); n != want || e != why {
		t.Fatalf("Put of %d bytes = %d, %v, not %d, %v", len(b), n, e, want, why)
	}
	stands(t, l, m)
	return e
}

func syncs(t *testing.T, l *wal.Log, m *logTold) api.Errno {
	t.Helper()
	e := l.Sync()
	if want := m.sync(); e != want {
		t.Fatalf("Sync = %v, not %v", e, want)
	}
	stands(t, l, m)
	return e
}

func drops(t *testing.T, l *wal.Log, m *logTold, ahead int64) api.Errno {
	t.Helper()
	e := l.Drop(ahead)
	if want := m.drop(ahead); e != want {
		t.Fatalf("Drop(%d) = %v, not %v", ahead, e, want)
	}
	stands(t, l, m)
	return e
}

// is asks that an error is the one that is told here, whatever was told by steps.
func is(t *testing.T, e, want api.Errno) {
	t.Helper()
	if e != want {
		t.Fatalf("%v, not %v", e, want)
	}
}

// some makes n bytes that look like none of a kind, the same each time.
func some(n int, seed uint32) string {
	b := make([]byte, n)
	for i := range b {
		seed = seed*1664525 + 1013904223
		b[i] = byte(seed >> 24)
	}
	return string(b)
}

// long is a log of so many records, in segments of which most have a few.
func long(t *testing.T, many int) (*wal.Log, *logTold) {
	t.Helper()
	l, m := begun(t, 64)
	for i := range many {
		is(t, puts(t, l, m, some(i*7%23, uint32(i))), api.OK)
	}
	return l, m
}

// nones are logs that are not there.
func nones() []*wal.Log {
	refused, _ := wal.Open(nil, "l", 64)
	var nobody *wal.Log
	return []*wal.Log{nil, {}, new(wal.Log), refused, nobody.Copy(), new(wal.Log).Copy()}
}

func TestExamples(t *testing.T) { // P8.1, P8.2
	l, m := begun(t, 64)
	n, e := l.Put([]byte("hi"))
	if n != 1 || e != api.OK || !slices.Equal(l.Files(), []string{"l.0000000001"}) {
		t.Errorf("Put = %d, %v; Files = %q", n, e, l.Files())
	}
	m.put("hi")
	stands(t, l, m)
	ends := func(l *wal.Log, f, n, s int64) {
		t.Helper()
		if first, next, sure := l.Ends(); first != f || next != n || sure != s {
			t.Errorf("Ends = %d %d %d, not %d %d %d", first, next, sure, f, n, s)
		}
	}
	ends(l, 1, 2, 0)
	is(t, l.Sync(), api.OK)
	ends(l, 1, 2, 1)
	c, _ := l.Disk().Crash()
	again, e := wal.Open(c, "l", 64)
	is(t, e, api.OK)
	if b, e := again.Get(1); string(b) != "hi" || e != api.OK {
		t.Errorf("Get(1) = %q, %v", b, e)
	}
	for _, l := range []*wal.Log{l, again} {
		n, e = l.Put(make([]byte, 60))
		if n != 2 || e != api.OK || !slices.Equal(l.Files(), []string{"l.0000000001", "l.0000000002"}) {
			t.Errorf("Put = %d, %v; Files = %q", n, e, l.Files())
		}
		is(t, l.Drop(2), api.OK)
		ends(l, 2, 3, 2)
	}
}

func TestBytes(t *testing.T) { // P8.1: what stands in the files
	l, _ := begun(t, 64)
	for _, b := range []string{"hi", "", strings.Repeat("x", 60)} {
		l.Put([]byte(b))
	}
	for name, want := range map[string]string{
		"l.0000000001": "\x05\x01\x1b\xdf\x05\xa5" + "\x06hi\xac\x2a\x93\xd8" + "\x04\x00\x00\x00\x00",
		"l.0000000003": fileOf(3, strings.Repeat("x", 60)),
	} {
		if b, e := l.Disk().Read(name); string(b) != want || e != api.OK {
			t.Errorf("%s: %x, %v, not %x", name, b, e, want)
		}
	}
	at := with(t, map[string]string{nameOf(299): fileOf(299, "a")})
	l, m, _ := open(t, at, "l", 64)
	is(t, puts(t, l, m, strings.Repeat("y", 100)), api.OK)
	if b, e := at.Read("l.0000000300"); !strings.HasPrefix(string(b), "\x06\xac\x02") || e != api.OK {
		t.Errorf("a head of two bytes: %x, %v", b, e)
	}
}

// asksName asks whether a log may be called so, on a disk where that has a file.
func asksName(t *testing.T, name string, may bool) {
	t.Helper()
	d := room(t, 1<<12)
	l, e := wal.Open(d, name, 64)
	if !may {
		if l != nil || e != api.ErrArg {
			t.Errorf("Open of %q = %v, %v", name, l, e)
		}
		return
	}
	if l == nil || e != api.OK {
		t.Fatalf("Open of %q = %v, %v", name, l, e)
	}
	if n, e := l.Put([]byte("hi")); n != 1 || e != api.OK || !slices.Equal(d.Names(), []string{name + ".0000000001"}) {
		t.Errorf("Put of %q = %d, %v: %q", name, n, e, d.Names())
	}
}

func TestNames(t *testing.T) { // P8.1
	for n := range 24 {
		asksName(t, strings.Repeat("a", n), 1 <= n && n <= 8)
		asksName(t, strings.Repeat("7", n), 1 <= n && n <= 8)
		asksName(t, strings.Repeat("é", n), false)
	}
	may := regexp.MustCompile(`^[a-z0-9]{1,8}$`)
	for c := range 256 {
		for _, around := range [][2]string{{"", ""}, {"a", ""}, {"", "a"}, {"a", "a"}, {"0000000", ""}, {"", "zzzzzzz"}} {
			s := around[0] + string([]byte{byte(c)}) + around[1]
			asksName(t, s, may.MatchString(s))
		}
	}
	for _, s := range []string{".", "a.", "l.0000000001", "é", "aé", "ａ", "٣", "K", "\ufffd", "𝟘", "a b", "A", " a", "a\n"} {
		asksName(t, s, false)
	}
	asksName(t, strings.Repeat("a", 1<<20), false)
}

func TestPers(t *testing.T) { // P8.1
	for _, per := range []int{math.MinInt, -64, -1, 0, 1, 63, 65537, 65536 + 64, 1 << 32, 1<<32 + 64, math.MaxInt} {
		if l, e := wal.Open(room(t, 100), "l", per); l != nil || e != api.ErrArg {
			t.Errorf("Open with Per %d = %v, %v", per, l, e)
		}
	}
	for _, per := range []int{64, 65, 100, 4096, 65535, 65536} {
		l, m := begun(t, per)
		is(t, puts(t, l, m, "hi"), api.OK)
	}
}

func TestOrderOfErrors(t *testing.T) { // P8.1: no disk, what may not be, rotten, the disk's
	rot := map[string]string{nameOf(1): fileOf(1), nameOf(2): fileOf(2)}
	refused, _ := disk.New(-1)
	for _, d := range []*disk.Disk{nil, new(disk.Disk), refused} {
		for _, name := range []string{"l", "", "L"} {
			for _, per := range []int{64, 63} {
				if l, e := wal.Open(d, name, per); l != nil || e != api.ErrNil {
					t.Errorf("Open on no disk = %v, %v", l, e)
				}
			}
		}
	}
	for _, dead := range []bool{false, true} {
		d := with(t, rot)
		if dead {
			dies(t, d)
		}
		was := d.Copy()
		for name, per := range map[string]int{"": 64, "L": 64, "l": 63, "l.": 65537} {
			if l, e := wal.Open(d, name, per); l != nil || e != api.ErrArg {
				t.Errorf("Open(%q, %d) = %v, %v", name, per, l, e)
			}
		}
		if l, e := wal.Open(d, "l", 64); l != nil || e != api.ErrRotten {
			t.Errorf("Open of a rotten log = %v, %v", l, e)
		}
		if !disk.Same(d, was) {
			t.Error("what is refused changes the disk")
		}
	}
}

// dies makes a disk dead.
func dies(t *testing.T, d *disk.Disk) {
	t.Helper()
	done(t, d, step{call: "Stop"})
	if e := d.Append("x", nil); e != api.ErrDead {
		t.Fatalf("Append = %v", e)
	}
}

func TestRotten(t *testing.T) { // P8.1
	big := frameTold(strings.Repeat("x", 2049))
	for why, files := range map[string]map[string]string{
		"a gap":                      {nameOf(1): fileOf(1, "a"), nameOf(3): fileOf(3, "c")},
		"a gap of one more":          {nameOf(1): fileOf(1, "a", "b"), nameOf(4): fileOf(4, "c")},
		"a file in another":          {nameOf(1): fileOf(1, "a", "b"), nameOf(2): fileOf(2, "c")},
		"a gap behind":               {nameOf(1): fileOf(1, "a"), nameOf(2): fileOf(2, "b"), nameOf(4): fileOf(4, "d")},
		"a gap ahead":                {nameOf(1): fileOf(1, "a"), nameOf(3): fileOf(3, "b"), nameOf(4): fileOf(4, "d")},
		"a head alone":               {nameOf(1): fileOf(1), nameOf(2): fileOf(2, "b")},
		"an empty file":              {nameOf(1): "", nameOf(2): fileOf(2, "b")},
		"an empty file between":      {nameOf(1): fileOf(1, "a"), nameOf(2): "", nameOf(3): fileOf(3, "c")},
		"another head":               {nameOf(1): fileOf(2, "a"), nameOf(2): fileOf(2, "b")},
		"no head":                    {nameOf(1): frameTold("a"), nameOf(2): fileOf(2, "b")},
		"a byte more":                {nameOf(1): fileOf(1, "a") + "\x00", nameOf(2): fileOf(2, "b")},
		"a torn frame":               {nameOf(1): fileOf(1, "a", "b")[:15], nameOf(2): fileOf(2, "b")},
		"a torn frame more":          {nameOf(1): fileOf(1, "a") + "\x06b", nameOf(2): fileOf(2, "b")},
		"a great record more":        {nameOf(1): fileOf(1, "a") + big, nameOf(2): fileOf(2, "b")},
		"a great record between":     {nameOf(1): fileOf(1, "a") + big + frameTold("b"), nameOf(3): fileOf(3, "b")},
		"a great record first":       {nameOf(1): fileOf(1) + big, nameOf(2): fileOf(2, "b")},
		"a last one far behind":      {nameOf(1): fileOf(1, "a"), nameOf(3): ""},
		"a last one too near":        {nameOf(1): fileOf(1, "a", "b"), nameOf(2): "torn"},
		"nought ahead":               {nameOf(0): "", nameOf(1): fileOf(1, "a")},
		"numbers beyond all records": {nameOf(9999999998): fileOf(9999999998), nameOf(9999999999): fileOf(9999999999)},
	} {
		d := with(t, files)
		if _, _, e := open(t, d, "l", 64); e != api.ErrRotten {
			t.Errorf("%s: Open = %v", why, e)
		}
		c, _ := d.Crash(-1, -1, -1)
		if _, _, e := open(t, c, "l", 64); e != api.ErrRotten {
			t.Errorf("%s, sure: Open = %v", why, e)
		}
		if l, _, e := open(t, d, "k", 64); e != api.OK || l.Files() != nil {
			t.Errorf("%s: another log is rotten by that: %v", why, e)
		}
	}
}

func TestMend(t *testing.T) { // P8.1: what the last file is then; nothing, if it is removed
	ab := fileOf(3, "a", "b")
	great := frameTold(strings.Repeat("x", 2048))
	for why, row := range map[string][2]string{
		"nothing":                   {"", ""},
		"one byte":                  {"\x05", ""},
		"a torn head":               {fileOf(3)[:5], ""},
		"another head":              {fileOf(4, "a"), ""},
		"a record for a head":       {frameTold("a") + ab, ""},
		"a longer head":             {frameTold("\x03\x00") + frameTold("a"), ""},
		"a head in a longer form":   {frameTold("\x83\x00") + frameTold("a"), ""},
		"no bytes for a head":       {frameTold("") + frameTold("a"), ""},
		"a broken head":             {"\x05\x03\x00\x00\x00\x00" + frameTold("a"), ""},
		"a great frame for a head":  {frameTold(strings.Repeat("x", 4096)) + ab, ""},
		"a head alone":              {fileOf(3), fileOf(3)},
		"a head and a byte":         {fileOf(3) + "\x00", fileOf(3)},
		"a head and a torn record":  {fileOf(3) + "\x05a", fileOf(3)},
		"a head twice":              {fileOf(3) + fileOf(3), fileOf(3) + fileOf(3)},
		"all good":                  {ab, ab},
		"a byte more":               {ab + "\x05", ab},
		"noughts":                   {ab + "\x00\x00\x00\x00", ab},
		"a number in a longer form": {ab + "\x84\x00\x00\x00\x00\x00", ab},
		"a torn record":             {ab + frameTold("c")[:5], ab},
		"a broken one between":      {fileOf(3, "a") + "\x05b\x00\x00\x00\x00" + frameTold("c"), fileOf(3, "a")},
		"the greatest record":       {ab + great, ab + great},
		"a greater one":             {ab + frameTold(strings.Repeat("x", 2049)), ab},
		"a greater one between":     {ab + frameTold(strings.Repeat("x", 2049)) + frameTold("c"), ab},
		"the greatest frame":        {ab + great + frameTold(strings.Repeat("x", 4096)), ab + great},
	} {
		for _, ahead := range []map[string]string{{}, {nameOf(1): fileOf(1, "x", "y")}, {nameOf(1): fileOf(1, "x"), nameOf(2): fileOf(2, "y"), "k.0000000007": "z"}} {
			files := map[string]string{nameOf(3): row[0]}
			for name, b := range ahead {
				files[name] = b
			}
			d := with(t, files)
			for _, c := range []*disk.Disk{d.Copy(), crashOf(d, -1, -1, -1, -1)} {
				_, m, e := open(t, c, "l", 64)
				if b, _ := c.Read(nameOf(3)); e != api.OK || string(b) != row[1] {
					t.Errorf("%s: Open = %v, and leaves %q", why, e, b)
				}
				asIt := m.d.Copy()
				if _, _, e := open(t, c, "l", 64); e != api.OK || !disk.Same(c, countedAnew(t, asIt)) {
					t.Errorf("%s: opened again it is another: %v", why, e)
				}
			}
			mendsDead(t, d, row[0] != row[1] || row[0] == "")
		}
	}
}

func crashOf(d *disk.Disk, picks ...int) *disk.Disk {
	c, _ := d.Crash(picks...)
	return c
}

// countedAnew is the disk, its steps counted from here on, as open does it.
func countedAnew(t *testing.T, d *disk.Disk) *disk.Disk {
	t.Helper()
	done(t, d, step{call: "Stop", n: countless})
	return d
}

// mendsDead asks what Open answers on a disk that is dead, or to stop at once, where there is a step to do, or none.
func mendsDead(t *testing.T, d *disk.Disk, isStep bool) {
	t.Helper()
	want := api.OK
	if isStep {
		want = api.ErrDead
	}
	stops := d.Copy()
	done(t, stops, step{call: "Stop"})
	dead := d.Copy()
	dies(t, dead)
	for _, c := range []*disk.Disk{stops, dead} {
		was := c.Copy()
		l, e := wal.Open(c, "l", 64)
		if e != want || (l == nil) != isStep {
			t.Errorf("Open = %v, %v, not %v", l, e, want)
		}
		if isStep && !c.Dead() || !isStep && !disk.Same(c, was) {
			t.Error("Open does other steps than are told")
		}
		for _, name := range was.Names() {
			b, _ := was.Read(name)
			if now, _ := c.Read(name); !bytes.Equal(b, now) {
				t.Error("a step that is refused changes a file")
			}
		}
	}
}

func TestWhichFilesAreTheLogs(t *testing.T) { // P8.1
	others := map[string]string{
		"l": "x", "l.": "x", "l.1": "x", "l.000000002": "x", "l.00000000002": "x", "l.000000000a": "x", "l.a000000002": "x", "l.00000.0002": "x",
		"ll.0000000002": "x", "l.l.0000000002": "x", "k.0000000002": "x", ".0000000002": "x", "0000000002": "x", "l0.0000000002": "x", "l..000000002": "x",
		"l.tmp": "x", "l.s0000000002": "x", "l0000000002": "x", "l.0000000002.": "x", "1.0000000002": "x",
	}
	d := with(t, others)
	l, m, e := open(t, d, "l", 64)
	is(t, e, api.OK)
	is(t, puts(t, l, m, "hi"), api.OK)
	is(t, syncs(t, l, m), api.OK)
	is(t, drops(t, l, m, 2), api.OK)
	if len(d.Names()) != len(others)+1 {
		t.Errorf("there are %q", d.Names())
	}
	for _, name := range []string{"a", "az09", "12345678", "l"} {
		d := with(t, map[string]string{name + ".0000000007": fileOf(7, "a"), "zz.0000000007": "torn", name + "x.0000000002": "torn"})
		l, _, e := open(t, d, name, 64)
		if first, next, _ := l.Ends(); first != 7 || next != 8 || e != api.OK || len(d.Names()) != 3 {
			t.Errorf("%s: %d %d, %v, %q", name, first, next, e, d.Names())
		}
	}
}

func TestWhereItBegins(t *testing.T) { // P8.1, P8.2: with the first file's number, whatever it is
	for _, n := range []int64{0, 1, 2, 9, 10, 99, 127, 128, 16384, 999999999, 1000000000, 1<<31 - 3, 9999999999} {
		d := with(t, map[string]string{nameOf(n): fileOf(n, "a", "b")})
		l, m, e := open(t, d, "l", 64)
		is(t, e, api.OK)
		if first, next, _ := l.Ends(); first != n || next != n+2 {
			t.Errorf("from %d: %d %d", n, first, next)
		}
		puts(t, l, m, "c")
		syncs(t, l, m)
	}
}

func TestGreatestNumber(t *testing.T) { // P8.1: a number above MaxNumber is not given
	const most = 1<<31 - 1
	for _, row := range []struct {
		number  int64
		records []string
		want    int64
	}{{most, nil, most}, {most - 1, []string{"a"}, most}, {most - 1, nil, most - 1}, {most, []string{"a"}, 0}, {most + 1, nil, 0}, {most - 2, []string{"a", "b", "c", "d"}, 0}} {
		d := with(t, map[string]string{nameOf(row.number): fileOf(row.number, row.records...)})
		for _, b := range []string{"x", strings.Repeat("x", 100)} {
			l, m, e := open(t, d.Copy(), "l", 64)
			is(t, e, api.OK)
			n, e := l.Copy().Put([]byte(b))
			if n != row.want || (e == api.OK) != (row.want > 0) {
				t.Errorf("%+v: Put = %d, %v", row, n, e)
			}
			for puts(t, l, m, b) == api.OK {
			}
			is(t, puts(t, l, m, b), api.ErrLong)
			is(t, puts(t, l, m, strings.Repeat("x", 2049)), api.ErrLong)
			is(t, syncs(t, l, m), api.OK)
			_, next, _ := l.Ends()
			is(t, drops(t, l, m, next), api.OK)
		}
	}
}

// sizeOf is how many bytes a record has whose frame has so many.
func sizeOf(t *testing.T, frame int) int {
	t.Helper()
	for size := range 2049 {
		if len(frameTold(some(size, 1))) == frame {
			return size
		}
	}
	t.Fatalf("no record has a frame of %d bytes", frame)
	return 0
}

func TestPutAtPer(t *testing.T) { // P8.1: with its last record a segment has at most Per bytes, if that is not its first one
	const great = 2 + 2048 + 4
	for _, per := range []int{64, 65, 66, 200, 2000, 8000} {
		for more := -2; more <= 2; more++ {
			l, m := begun(t, per)
			is(t, puts(t, l, m, "hi"), api.OK)
			left := per - len(fileOf(1, "hi"))
			for left+more > 2*great {
				is(t, puts(t, l, m, some(2048, uint32(left))), api.OK)
				left -= great
			}
			if left+more > great {
				is(t, puts(t, l, m, some(sizeOf(t, 500), 9)), api.OK)
				left -= 500
			}
			for left+more > great {
				is(t, puts(t, l, m, some(sizeOf(t, 1000), 9)), api.OK)
				left -= 1000
			}
			is(t, puts(t, l, m, some(sizeOf(t, left+more), 5)), api.OK)
			if many := len(l.Files()); many != 1 && more <= 0 || many != 2 && more > 0 {
				t.Errorf("Per %d, %d more: %d files", per, more, many)
			}
			is(t, puts(t, l, m, ""), api.OK)
			if many := len(l.Files()); more == 0 && many != 2 || many > 2 {
				t.Errorf("Per %d, %d more, and a record: %d files", per, more, many)
			}
		}
	}
}

func TestFirstRecordOfASegment(t *testing.T) { // P8.1: goes behind the head, however long it is
	for _, size := range []int{0, 49, 50, 53, 54, 55, 60, 1000, 2047, 2048} {
		l, m := begun(t, 64)
		for range 3 {
			is(t, puts(t, l, m, some(size, 3)), api.OK)
		}
		if size > 50 && len(l.Files()) != 3 {
			t.Errorf("%d bytes: %q", size, l.Files())
		}
		l, m, _ = open(t, with(t, map[string]string{nameOf(7): fileOf(7)}), "l", 64)
		is(t, puts(t, l, m, some(size, 4)), api.OK)
		is(t, puts(t, l, m, ""), api.OK)
		if first, next, _ := l.Ends(); first != 7 || next != 9 || size > 60 && !slices.Equal(l.Files(), []string{nameOf(7), nameOf(8)}) {
			t.Errorf("%d bytes: %d %d %q", size, first, next, l.Files())
		}
	}
}

func TestPutRefuses(t *testing.T) { // P8.1
	l, m := long(t, 9)
	for _, size := range []int{2049, 2050, 4096, 4097, 1 << 20} {
		is(t, puts(t, l, m, some(size, 3)), api.ErrLong)
	}
	is(t, puts(t, l, m, some(2048, 3)), api.OK)
	for _, l := range []*wal.Log{l.Copy(), l.Copy()} {
		dies(t, l.Disk())
		if n, e := l.Put(make([]byte, 2049)); n != 0 || e != api.ErrLong {
			t.Errorf("Put of too much on a dead disk = %d, %v", n, e)
		}
		if n, e := l.Put(nil); n != 0 || e != api.ErrDead {
			t.Errorf("Put on a dead disk = %d, %v", n, e)
		}
		is(t, l.Sync(), api.ErrDead)
		is(t, l.Drop(0), api.ErrRange)
		is(t, l.Drop(1), api.ErrDead)
	}
}

func TestPutWithoutRoom(t *testing.T) { // P8.1: what is ahead of the refused step is done; what is dropped makes room
	l, m, _ := open(t, room(t, 150), "l", 64)
	for puts(t, l, m, some(50, 1)) == api.OK {
	}
	first, next, sure := l.Ends()
	if first != 1 || next != 3 || sure != 2 || len(l.Files()) != 2 {
		t.Errorf("%d %d %d %q", first, next, sure, l.Files())
	}
	is(t, puts(t, l, m, some(50, 1)), api.ErrRoom)
	is(t, puts(t, l, m, some(25, 1)), api.ErrRoom)
	is(t, drops(t, l, m, 2), api.OK)
	is(t, puts(t, l, m, some(50, 2)), api.OK)
	is(t, puts(t, l, m, some(50, 2)), api.ErrRoom)
	l, m, _ = open(t, room(t, 5), "l", 64)
	is(t, puts(t, l, m, ""), api.ErrRoom)
	is(t, puts(t, l, m, ""), api.ErrRoom)
}

func TestEmptyLog(t *testing.T) { // P8.1, P8.2: no step is done, for there is no file
	l, m := begun(t, 64)
	for range 2 {
		is(t, syncs(t, l, m), api.OK)
		is(t, drops(t, l, m, 1), api.OK)
		for _, n := range []int64{math.MinInt64, -1, 0, 2, 3, math.MaxInt64} {
			is(t, drops(t, l, m, n), api.ErrRange)
		}
	}
	if first, next, sure := l.Ends(); first != 1 || next != 1 || sure != 0 || l.Files() != nil {
		t.Errorf("%d %d %d %q", first, next, sure, l.Files())
	}
	dies(t, l.Disk())
	is(t, l.Sync(), api.OK)
	is(t, l.Drop(1), api.OK)
	again, e := wal.Open(l.Disk(), "l", 64)
	if again == nil || e != api.OK {
		t.Errorf("Open on a dead disk without files = %v", e)
	}
}

func TestSync(t *testing.T) { // P8.1, P8.2: of the last segment alone; also if it is sure
	d := with(t, map[string]string{nameOf(1): fileOf(1, "a", "b"), nameOf(3): fileOf(3, "c")})
	l, m, _ := open(t, d, "l", 64)
	for range 2 {
		is(t, syncs(t, l, m), api.OK)
		if _, _, sure := l.Ends(); sure != 0 {
			t.Errorf("the first segment is not sure, but the records up to %d", sure)
		}
	}
	l, m = long(t, 12)
	for range 2 {
		is(t, syncs(t, l, m), api.OK)
		if _, next, sure := l.Ends(); sure != next-1 {
			t.Errorf("sure is %d of %d", sure, next)
		}
	}
	is(t, puts(t, l, m, ""), api.OK)
	if _, next, sure := l.Ends(); sure != next-2 {
		t.Errorf("sure is %d of %d", sure, next)
	}
}

func TestSure(t *testing.T) { // P8.2: of each segment each number of sure bytes, and those behind sure or not
	files := []string{fileOf(5, "a", "", "bc"), fileOf(8, "d"), fileOf(9, "e", "f")}
	starts, records := []int64{5, 8, 9}, [][]string{{"a", "", "bc"}, {"d"}, {"e", "f"}}
	for at := range files {
		for n := range len(files[at]) + 1 {
			for behind := range 2 {
				d := room(t, 1000)
				for i, b := range files {
					sure := len(b)
					if i == at {
						sure = n
					} else if i > at {
						sure *= behind
					}
					done(t, d, step{call: "Append", name: nameOf(starts[i]), bytes: b[:sure]}, step{call: "Sync", name: nameOf(starts[i])}, step{call: "Append", name: nameOf(starts[i]), bytes: b[sure:]})
				}
				l, _, _ := open(t, d, "l", 64)
				want, end := starts[at]-1, len(fileOf(starts[at]))
				for _, b := range records[at] {
					if end += len(frameTold(b)); end <= n {
						want++
					}
				}
				if n == len(files[at]) && behind == 1 {
					want = 10
				}
				if first, next, sure := l.Ends(); first != 5 || next != 11 || sure != want {
					t.Errorf("of %d %d bytes are sure: %d %d %d, not %d", starts[at], n, first, next, sure, want)
				}
			}
		}
	}
}

func TestDrop(t *testing.T) { // P8.1: at each number, at each step at which the disk stops
	l, m := long(t, 40)
	if len(l.Files()) < 8 {
		t.Fatalf("there are %q", l.Files())
	}
	for n := int64(-2); n < 45; n++ {
		c, told := l.Copy(), &logTold{m.d.Copy(), "l", 64}
		if e := drops(t, c, told, n); (e == api.OK) != (1 <= n && n <= 41) {
			t.Errorf("Drop(%d) = %v", n, e)
		}
		first, next, sure := c.Ends()
		if n == 41 && len(c.Files()) != 1 || n >= 1 && n <= 41 && (first > n || next != 41 || sure != 40) {
			t.Errorf("behind Drop(%d): %d %d %d %q", n, first, next, sure, c.Files())
		}
		drops(t, c, told, n)
		drops(t, c, told, first-1)
		drops(t, c, told, first)
		is(t, puts(t, c, told, "more"), api.OK)
		for stop := range 12 {
			c, told := l.Copy(), &logTold{m.d.Copy(), "l", 64}
			done(t, c.Disk(), step{call: "Stop", n: stop})
			done(t, told.d, step{call: "Stop", n: stop})
			drops(t, c, told, n)
			keeps(t, c, told, stop)
		}
	}
	for _, n := range []int64{math.MinInt64, math.MinInt64 + 1, 1 << 31, 1<<32 + 1, 1<<32 + 20, math.MaxInt64} {
		is(t, drops(t, l, m, n), api.ErrRange)
	}
	stands(t, l, m)
}

func TestDropOfHeadAlone(t *testing.T) { // P8.1: a last segment without records is no other one
	d := with(t, map[string]string{nameOf(4): fileOf(4, "a"), nameOf(5): fileOf(5)})
	l, m, _ := open(t, d, "l", 64)
	is(t, drops(t, l, m, 5), api.OK)
	if first, next, sure := l.Ends(); first != 5 || next != 5 || sure != 4 || !slices.Equal(l.Files(), []string{nameOf(5)}) {
		t.Errorf("%d %d %d %q", first, next, sure, l.Files())
	}
	is(t, drops(t, l, m, 5), api.OK)
	is(t, drops(t, l, m, 4), api.ErrRange)
	is(t, drops(t, l, m, 6), api.ErrRange)
	is(t, puts(t, l, m, "b"), api.OK)
}

func TestFromAsItIsCalled(t *testing.T) { // P8.2: not as it is gone over
	l, m := long(t, 20)
	for n := int64(1); n <= 21; n++ {
		c := l.Copy()
		all, want := c.From(n), m.from(n)
		c.Put([]byte("behind"))
		c.Drop(21)
		if got := gathered(all); !slices.Equal(got, want) {
			t.Fatalf("From(%d) goes over %v, not %v", n, got, want)
		}
		for i := range want {
			if first, _, _ := c.Ends(); first < 10 {
				t.Fatalf("nothing is dropped: %d", first)
			}
			c.Put([]byte(strconv.Itoa(i)))
		}
		c.Disk().Remove(c.Files()[0])
		if got := gathered(all); !slices.Equal(got, want) {
			t.Fatalf("again From(%d) goes over %v, not %v", n, got, want)
		}
	}
	none := l.From(21)
	l.Put([]byte("behind"))
	if got := gathered(none); got != nil {
		t.Errorf("From of the end goes over %v", got)
	}
}

func TestFromIsLeft(t *testing.T) { // P8.2: at any time, and gone over again
	l, m := long(t, 20)
	want := m.from(3)
	all := l.From(3)
	for stop := range len(want) {
		var got []record
		for n, b := range all {
			got = append(got, record{n, string(b)})
			if len(got) > stop {
				break
			}
		}
		if !slices.Equal(got, want[:stop+1]) {
			t.Fatalf("left behind %d: %v", stop, got)
		}
	}
	i := 0
	for n := range all {
		if want[i].n != n || !slices.Equal(gathered(all), want) {
			t.Fatal("gone over within itself it is another")
		}
		l.Put(nil)
		i++
	}
	if i != len(want) {
		t.Errorf("it ends behind %d", i)
	}
}

func TestAnswersAreNew(t *testing.T) { // P8.2
	l, m := long(t, 20)
	spoil := func(b []byte) {
		b = b[:cap(b)]
		for i := range b {
			b[i] = '!'
		}
	}
	all := l.From(0)
	for range 2 {
		for _, b := range all {
			spoil(b)
		}
		for n := int64(1); n <= 20; n++ {
			b, _ := l.Get(n)
			spoil(b)
		}
		names := l.Files()
		other := l.Files()
		names = names[:cap(names)]
		for i := range names {
			names[i] = "x"
		}
		if !slices.Equal(other, m.names()) || !slices.Equal(gathered(all), m.from(0)) {
			t.Fatal("two answers share memory")
		}
		stands(t, l, m)
	}
}

func TestWhatIsHandedIn(t *testing.T) { // P8.1: is left as it was, and is not kept
	l, m := begun(t, 64)
	for n := range 60 {
		b := append([]byte(some(n, 5)), bytes.Repeat([]byte{0xa5}, 100)...)
		was := bytes.Clone(b)
		l.Put(b[:n])
		m.put(string(was[:n]))
		if !bytes.Equal(b, was) {
			t.Errorf("%d bytes that were handed in are changed", n)
		}
		clear(b)
		stands(t, l, m)
	}
	name := []byte("l")
	l, e := wal.Open(l.Disk(), unsafe.String(&name[0], 1), 64)
	name[0] = 'k'
	is(t, e, api.OK)
	stands(t, l, m)
	is(t, puts(t, l, m, some(60, 1)), api.OK)
}

func TestCopy(t *testing.T) { // P8.3: goes on apart
	for n := range 12 {
		l, m := long(t, n)
		c, told := l.Copy(), &logTold{m.d.Copy(), "l", 64}
		if c == l || c.Disk() == l.Disk() {
			t.Fatal("a copy is not apart")
		}
		stands(t, c, told)
		for i := range 12 {
			puts(t, l, m, some(i, 1))
			stands(t, c, told)
			puts(t, c, told, some(2*i, 2))
			stands(t, l, m)
		}
		again, other := l.Copy(), &logTold{m.d.Copy(), "l", 64}
		drops(t, l, m, 5)
		stands(t, again, other)
		puts(t, again, other, some(60, 4))
		puts(t, again, other, some(60, 5))
		stands(t, l, m)
		puts(t, l, m, some(60, 6))
		stands(t, again, other)
		stands(t, c, told)
	}
	l, _ := long(t, 3)
	dies(t, l.Disk())
	if _, e := l.Copy().Put(nil); e != api.ErrDead {
		t.Errorf("Put of a copy on a dead disk = %v", e)
	}
	l, m, _ := open(t, room(t, 1<<12), "other", 200)
	c := l.Copy()
	for i := range 20 {
		puts(t, l, m, some(i, 1))
		c.Put([]byte(some(i, 1)))
	}
	stands(t, c, m)
}

func TestNone(t *testing.T) { // P8.1 to P8.3
	for _, l := range nones() {
		for _, b := range [][]byte{nil, []byte("hi"), make([]byte, 2049)} {
			if n, e := l.Put(b); n != 0 || e != api.ErrNil {
				t.Errorf("Put = %d, %v", n, e)
			}
		}
		is(t, l.Sync(), api.ErrNil)
		for _, n := range []int64{math.MinInt64, 0, 1, 2, math.MaxInt64} {
			is(t, l.Drop(n), api.ErrNil)
			if b, e := l.Get(n); b != nil || e != api.ErrNil {
				t.Errorf("Get = %q, %v", b, e)
			}
			all := l.From(n)
			if all == nil || gathered(all) != nil {
				t.Error("From of none goes over something")
			}
		}
		if first, next, sure := l.Ends(); first != 0 || next != 0 || sure != 0 || l.Files() != nil || l.Disk() != nil || l.Copy() != nil {
			t.Error("of none there is something")
		}
	}
}

func TestLogsOnOneDisk(t *testing.T) { // P8.1: what is done to one is not done to the other
	d := room(t, 1<<16)
	l, e := wal.Open(d, "l", 64)
	is(t, e, api.OK)
	k, e := wal.Open(d, "ll", 100)
	is(t, e, api.OK)
	for i := range 30 {
		for _, log := range []*wal.Log{l, k} {
			if n, e := log.Put([]byte(some(i, 3))); n != int64(i+1) || e != api.OK {
				t.Fatalf("Put = %d, %v", n, e)
			}
		}
	}
	is(t, l.Drop(20), api.OK)
	stands(t, l, &logTold{d.Copy(), "l", 64})
	stands(t, k, &logTold{d.Copy(), "ll", 100})
	if first, next, _ := k.Ends(); first != 1 || next != 31 {
		t.Errorf("%d %d", first, next)
	}
}

func TestOpenedAgain(t *testing.T) { // P8.1: on the same disk, also with another Per, also with what is not sure
	for n := range 15 {
		l, m := long(t, n)
		for _, per := range []int{64, 65, 1000, 65536} {
			was := l.Disk().Copy()
			again, e := wal.Open(l.Disk(), "l", per)
			if e != api.OK || !disk.Same(was, l.Disk()) {
				t.Fatalf("Open = %v", e)
			}
			stands(t, again, m)
			c, told := again.Copy(), &logTold{m.d.Copy(), "l", per}
			for i := range 4 {
				is(t, puts(t, c, told, some(20*i, 4)), api.OK)
			}
		}
	}
}

func TestFilesThatOthersChange(t *testing.T) { // P8.1 to P8.3: of these nothing is promised, but that each call ends
	for _, x := range []step{{call: "Remove"}, {call: "Cut"}, {call: "Cut", n: 3}, {call: "Cut", n: 14}, {call: "Append", bytes: "\x05more"}, {call: "Append", bytes: frameTold("more")}} {
		for at := range 4 {
			l, _ := long(t, 12)
			x.name = l.Files()[at]
			done(t, l.Disk(), x)
			for n := int64(-1); n < 15; n++ {
				l.Get(n)
				gathered(l.From(n))
			}
			for range 3 {
				l.Ends()
				l.Files()
				l.Put([]byte("x"))
				l.Sync()
				l.Drop(9)
				l.Drop(13)
				wal.Open(l.Copy().Disk(), "l", 64)
			}
		}
	}
}

// keeps crashes a log, and asks what the document promises of what is left.
func keeps(t *testing.T, l *wal.Log, m *logTold, picks ...int) (*wal.Log, *logTold) {
	t.Helper()
	first, next, sure := l.Ends()
	was := gathered(l.From(0))
	left, told := m.crashed(t, picks...)
	f, n, s := left.Ends()
	if f != first || n > next || n <= sure || s != n-1 {
		t.Fatalf("of %d %d %d a crash leaves %d %d %d", first, next, sure, f, n, s)
	}
	all := gathered(left.From(0))
	if len(all) != int(n-f) || !slices.Equal(all, was[:len(all)]) {
		t.Fatalf("of %v a crash leaves %v", was, all)
	}
	d := left.Disk().Copy()
	done(t, d, step{call: "Stop"})
	stays := d.Copy()
	again, e := wal.Open(d, "l", 64)
	if e != api.OK || !disk.Same(d, stays) {
		t.Fatalf("opened again: %v", e)
	}
	if af, an, as := again.Ends(); af != f || an != n || as != s || !slices.Equal(gathered(again.From(0)), all) || !slices.Equal(again.Files(), left.Files()) {
		t.Fatal("opened again it is another")
	}
	return left, told
}

func TestEachCut(t *testing.T) { // P8.4: whatever is kept of what is not sure
	for n := range 14 {
		l, m := long(t, n)
		for range 2 {
			unsure := 1
			if names := l.Files(); len(names) > 0 {
				b, _ := l.Disk().Read(names[len(names)-1])
				sure, _ := l.Disk().Sure(names[len(names)-1])
				unsure = len(b) - sure + 1
			}
			files := len(l.Files())
			for pick := range unsure {
				picks := make([]int, max(1, files))
				picks[len(picks)-1] = pick
				left, told := keeps(t, l, m, picks...)
				is(t, puts(t, left, told, "goes on"), api.OK)
				is(t, puts(t, left, told, some(60, 1)), api.OK)
				keeps(t, left, told, 3, 5, 7)
			}
			syncs(t, l, m)
			puts(t, l, m, "not sure")
		}
	}
}

func TestEachByte(t *testing.T) { // P8.1: that is another one makes the log rotten, or the last file shorter
	files := map[string]string{nameOf(1): fileOf(1, "a", ""), nameOf(3): fileOf(3, "b"), nameOf(4): fileOf(4, "c", "d", "")}
	for name, b := range files {
		for i := range len(b) {
			for _, other := range []byte{0, 1, 3, 4, 5, 6, 0x7f, 0x80, 0xff, b[i] ^ 1, b[i] + 1} {
				if other == b[i] {
					continue
				}
				d := with(t, files)
				done(t, d, step{call: "Cut", name: name, n: i}, step{call: "Append", name: name, bytes: string([]byte{other}) + b[i+1:]})
				l, _, e := open(t, d, "l", 64)
				if name != nameOf(4) {
					is(t, e, api.ErrRotten)
					continue
				}
				is(t, e, api.OK)
				if first, next, _ := l.Ends(); first != 1 || next > 6 {
					t.Errorf("byte %d: %d %d", i, first, next)
				}
			}
		}
	}
}

// deed is something that is done to a log.
type deed struct {
	call  string
	bytes string
	n     int64
}

func does(t *testing.T, l *wal.Log, m *logTold, x deed) api.Errno {
	t.Helper()
	switch x.call {
	case "Put":
		return puts(t, l, m, x.bytes)
	case "Sync":
		return syncs(t, l, m)
	default:
		return drops(t, l, m, x.n)
	}
}

// anyDeed is one for a log with these ends, right or wrong.
func anyDeed(mix *rand.Rand, first, next int64) deed {
	switch mix.Intn(6) {
	case 0:
		return deed{call: "Sync"}
	case 1:
		return deed{call: "Drop", n: first - 1 + mix.Int63n(next-first+3)}
	}
	sizes := []int{0, 1, 2, mix.Intn(20), mix.Intn(20), mix.Intn(70), mix.Intn(70), mix.Intn(300), 2047 + mix.Intn(3)}
	return deed{call: "Put", bytes: some(sizes[mix.Intn(len(sizes))], mix.Uint32())}
}

func anyPicks(mix *rand.Rand) []int {
	picks := make([]int, mix.Intn(12))
	for i := range picks {
		picks[i] = mix.Intn(400) - 200
	}
	return picks
}

func TestEachStep(t *testing.T) { // P8.1, P8.4: a disk that stops at each step of a walk, and at each step of what mends it
	for seed := range 5 {
		mix := rand.New(rand.NewSource(int64(seed)))
		var walk []deed
		l, m := begun(t, 64)
		for range 30 {
			first, next, _ := l.Ends()
			walk = append(walk, anyDeed(mix, first, next))
			does(t, l, m, walk[len(walk)-1])
		}
		for stop := 0; ; stop++ {
			l, m := begun(t, 64)
			done(t, l.Disk(), step{call: "Stop", n: stop})
			done(t, m.d, step{call: "Stop", n: stop})
			for _, x := range walk {
				does(t, l, m, x)
			}
			for range 3 {
				picks := anyPicks(mix)
				left, _ := keeps(t, l, m, picks...)
				stopsAsItMends(t, m, left, picks...)
			}
			if !m.d.Dead() {
				break
			}
		}
	}
}

// stopsAsItMends asks that a crash, as a log is opened behind a crash, changes nothing of what is left.
func stopsAsItMends(t *testing.T, m *logTold, left *wal.Log, picks ...int) {
	t.Helper()
	c, _ := m.d.Crash(picks...)
	done(t, c, step{call: "Stop"})
	l, e := wal.Open(c, m.name, m.per)
	if e == api.OK {
		return
	}
	if l != nil || e != api.ErrDead {
		t.Fatalf("Open as the disk stops = %v", e)
	}
	c, _ = c.Crash(picks...)
	again, e := wal.Open(c, m.name, m.per)
	if e != api.OK || !slices.Equal(gathered(again.From(0)), gathered(left.From(0))) || !slices.Equal(again.Files(), left.Files()) {
		t.Fatalf("behind another crash: %v", e)
	}
}

func TestWalks(t *testing.T) { // P8.1 to P8.4: whatever is done, in whatever order
	told := map[api.Errno]int{}
	pers := []int{64, 64, 65, 100, 300, 5000}
	rooms := []int{100, 400, 3000, 10000, 1 << 20}
	for seed := range 150 {
		mix := rand.New(rand.NewSource(int64(seed)))
		l, m, _ := open(t, room(t, rooms[mix.Intn(len(rooms))]), "l", pers[mix.Intn(len(pers))])
		for range 50 {
			first, next, _ := l.Ends()
			switch mix.Intn(14) {
			case 0:
				if !m.d.Dead() {
					n := mix.Intn(6)
					done(t, l.Disk(), step{call: "Stop", n: n})
					done(t, m.d, step{call: "Stop", n: n})
				}
			case 1:
				l, m = keeps(t, l, m, anyPicks(mix)...)
			case 2:
				c := &logTold{m.d.Copy(), m.name, m.per}
				was := l
				l = l.Copy()
				does(t, l, m, anyDeed(mix, first, next))
				stands(t, was, c)
			case 3:
				again, e := wal.Open(l.Disk(), m.name, m.per)
				is(t, e, api.OK)
				l = again
				stands(t, l, m)
			default:
				told[does(t, l, m, anyDeed(mix, first, next))]++
			}
			if m.d.Dead() && mix.Intn(3) == 0 {
				l, m = keeps(t, l, m, anyPicks(mix)...)
			}
		}
	}
	for _, e := range []api.Errno{api.OK, api.ErrLong, api.ErrRange, api.ErrRoom, api.ErrDead} {
		if told[e] < 50 {
			t.Errorf("%v came %d times", e, told[e])
		}
	}
}

func TestManyRecords(t *testing.T) { // P8.1, P8.2: each is found, also among many
	for _, per := range []int{64, 65536} {
		l, e := wal.Open(room(t, 1<<24), "l", per)
		is(t, e, api.OK)
		const many = 20000
		for i := range int64(many) {
			if n, e := l.Put([]byte(strconv.FormatInt(i, 10))); n != i+1 || e != api.OK {
				t.Fatalf("Put = %d, %v", n, e)
			}
		}
		for n := int64(1); n <= many; n += 97 {
			if b, e := l.Get(n); string(b) != strconv.FormatInt(n-1, 10) || e != api.OK {
				t.Fatalf("Get(%d) = %q, %v", n, b, e)
			}
		}
		is(t, l.Drop(many/2), api.OK)
		c, _ := l.Disk().Crash()
		l, e = wal.Open(c, "l", per)
		is(t, e, api.OK)
		if first, next, sure := l.Ends(); first > many/2 || first < many/4 && per == 64 || next != many+1 || sure != many {
			t.Errorf("%d %d %d", first, next, sure)
		}
		at := int64(many / 2)
		for n, b := range l.From(at) {
			if n != at || string(b) != strconv.FormatInt(n-1, 10) {
				t.Fatalf("From: %d %q", n, b)
			}
			at++
		}
		if at != many+1 {
			t.Errorf("From ends at %d", at)
		}
	}
}

func FuzzOpen(f *testing.F) { // P8.1, P8.2: whatever stands in the files: what the document tells
	f.Add("l", 64, int64(1), []byte(fileOf(1, "a", "b")), int64(3), []byte(fileOf(3, "c")), 5)
	f.Add("l", 64, int64(1), []byte(fileOf(1, "a")), int64(2), []byte{}, -1)
	f.Add("l", 65536, int64(1)<<31-1, []byte(fileOf(1<<31-1)), int64(0), []byte("\x05"), 0)
	f.Add("", 63, int64(-1), []byte(nil), int64(9999999999), []byte{0x80}, 1)
	f.Add("abc12345", 100, int64(0), []byte("\x00"), int64(1), []byte(fileOf(1)+"\x05"), 3)
	f.Fuzz(func(t *testing.T, name string, per int, one int64, a []byte, two int64, b []byte, pick int) {
		d := room(t, 1<<20)
		if !regexp.MustCompile(`^[a-z0-9]{1,8}$`).MatchString(name) || per < 64 || per > 65536 {
			if l, e := wal.Open(d, name, per); l != nil || e != api.ErrArg {
				t.Fatalf("Open = %v, %v", l, e)
			}
			return
		}
		d.Append(fmt.Sprintf("%s.%010d", name, one), a)
		d.Append(fmt.Sprintf("%s.%010d", name, two), b)
		c, _ := d.Crash(pick, -pick)
		for _, d := range []*disk.Disk{d, c} {
			l, m, e := open(t, d, name, per)
			if e != api.OK {
				continue
			}
			first, next, _ := l.Ends()
			for _, x := range []deed{{call: "Put", bytes: string(a)}, {call: "Sync"}, {call: "Put", bytes: string(b)}, {call: "Put"}, {call: "Drop", n: one}, {call: "Drop", n: two}, {call: "Drop", n: first}, {call: "Drop", n: next}, {call: "Put", bytes: name}} {
				does(t, l, m, x)
			}
			stands(t, l.Copy(), m)
		}
	})
}
