package snap_test

import (
	"bytes"
	"encoding/binary"
	"fmt"
	"hash/crc32"
	"iter"
	"math"
	"math/rand"
	"reflect"
	"regexp"
	"slices"
	"strconv"
	"strings"
	"testing"
	"unsafe"

	"antiphon/api"
	"antiphon/disk"
	"antiphon/snap"
	"antiphon/wal"
)

// record is one with its number.
type record struct {
	n int64
	b string
}

// keepTold is a keep as the document tells it: by steps on a disk, and by a log of layer 8.
type keepTold struct {
	d     *disk.Disk
	log   *wal.Log
	name  string
	per   int
	state string
	n     int64
}

// step is one of a disk's.
type step struct {
	call, name, bytes string
	n                 int
}

// countless is so many steps that none is refused, but they are counted.
const countless = math.MaxInt

func numberTold(n int64) string { return string(binary.AppendUvarint(nil, uint64(n))) }

func sealTold(b string) string {
	return string(binary.LittleEndian.AppendUint32([]byte(b), crc32.ChecksumIEEE([]byte(b))))
}

func frameTold(b string) string { return numberTold(int64(len(b)+4)) + sealTold(b) }

// fileOf is the bytes of a segment that begins with a number.
func fileOf(number int64, records ...string) string {
	all := frameTold(numberTold(number))
	for _, b := range records {
		all += frameTold(b)
	}
	return all
}

// stateOf is the bytes of a state's file.
func stateOf(number int64, state string) string { return sealTold(numberTold(number) + state) }

func nameOf(number int64) string { return fmt.Sprintf("k.%010d", number) }

func nameOfState(number int64) string { return fmt.Sprintf("k.s%010d", number) }

// stateTold is the state in the bytes of a file that is called by a number.
func stateTold(number int64, b []byte) (state string, is bool) {
	if len(b) < 4 {
		return "", false
	}
	body, tail := b[:len(b)-4], b[len(b)-4:]
	if crc32.ChecksumIEEE(body) != binary.LittleEndian.Uint32(tail) {
		return "", false
	}
	n, size := binary.Uvarint(body)
	if size <= 0 || string(body[:size]) != numberTold(int64(n)) || int64(n) != number || len(body)-size > 1<<20 {
		return "", false
	}
	return string(body[size:]), true
}

// numberIn is the number that the last ten signs of a name say.
func numberIn(name string) int64 {
	n, _ := strconv.ParseInt(name[len(name)-10:], 10, 64)
	return n
}

func stepped(d *disk.Disk, x step) api.Errno {
	switch x.call {
	case "Append":
		return d.Append(x.name, []byte(x.bytes))
	case "Sync":
		return d.Sync(x.name)
	case "Cut":
		return d.Cut(x.name, x.n)
	case "Remove":
		return d.Remove(x.name)
	default:
		return d.Stop(x.n)
	}
}

// alive is a disk with the same files, that does not stop.
func alive(d *disk.Disk) *disk.Disk {
	other, _ := disk.New(1 << 24)
	for _, name := range d.Names() {
		b, _ := d.Read(name)
		other.Append(name, b)
	}
	return other
}

func (m *keepTold) has(name string) bool { return slices.Contains(m.d.Names(), name) }

func (m *keepTold) tmp() string { return m.name + ".tmp" }

func (m *keepTold) file(n int64) string { return fmt.Sprintf("%s.s%010d", m.name, n) }

// states is the names of the states' files, rising.
func (m *keepTold) states() []string {
	var all []string
	called := regexp.MustCompile(`^` + m.name + `\.s[0-9]{10}$`)
	for _, name := range m.d.Names() {
		if called.MatchString(name) {
			all = append(all, name)
		}
	}
	slices.Sort(all)
	return all
}

// removes does a step for each of these files that is there, up to the first one that is refused.
func (m *keepTold) removes(names ...string) api.Errno {
	for _, name := range names {
		if !m.has(name) {
			continue
		}
		if e := m.d.Remove(name); e != api.OK {
			return e
		}
	}
	return api.OK
}

// sound asks of a name and a Per that may be what the files tell, and which error if they are not sound.
func (m *keepTold) sound() api.Errno {
	l, e := wal.Open(alive(m.d), m.name, m.per)
	if e != api.OK {
		return e
	}
	first, next, _ := l.Ends()
	all := m.states()
	m.n, m.state = 1, ""
	if len(all) == 0 {
		if first != 1 {
			return api.ErrSpoilt
		}
		return api.OK
	}
	name := all[len(all)-1]
	m.n = numberIn(name)
	b, _ := m.d.Read(name)
	state, is := stateTold(m.n, b)
	if !is || first > m.n || next < m.n {
		return api.ErrSpoilt
	}
	m.state = state
	return api.OK
}

// goes asks whether a segment does, if all ahead of the state is dropped.
func (m *keepTold) goes() bool {
	l, _ := wal.Open(alive(m.d), m.name, m.per)
	many := len(l.Files())
	l.Drop(m.n)
	return len(l.Files()) < many
}

// open is what Open answers of a name and a Per that may be.
func (m *keepTold) open() (e api.Errno) {
	if e = m.sound(); e != api.OK {
		return e
	}
	if m.log, e = wal.Open(m.d, m.name, m.per); e != api.OK {
		return e
	}
	gone := []string{m.tmp()}
	if all := m.states(); len(all) > 0 {
		gone = append(gone, all[:len(all)-1]...)
	}
	if e = m.removes(gone...); e != api.OK || !m.goes() {
		return e
	}
	return m.log.Drop(m.n)
}

func (m *keepTold) next() int64 {
	_, next, _ := m.log.Ends()
	return next
}

func (m *keepTold) sure() int64 {
	_, _, sure := m.log.Ends()
	if sure < m.n-1 {
		return m.n - 1
	}
	return sure
}

func (m *keepTold) behind() []record { return gathered(m.log.From(m.n)) }

func (m *keepTold) save(state string) api.Errno {
	n, elder := m.next(), m.n
	if len(state) > 1<<20 || n > 9999999999 {
		return api.ErrLong
	}
	if e := m.log.Sync(); e != api.OK {
		return e
	}
	if e := m.removes(m.tmp()); e != api.OK {
		return e
	}
	for _, x := range []step{{call: "Append", name: m.tmp(), bytes: stateOf(n, state)}, {call: "Sync", name: m.tmp()}} {
		if e := stepped(m.d, x); e != api.OK {
			return e
		}
	}
	if e := m.d.Rename(m.tmp(), m.file(n)); e != api.OK {
		return e
	}
	m.n, m.state = n, state
	if elder != n {
		if e := m.removes(m.file(elder)); e != api.OK {
			return e
		}
	}
	return m.log.Drop(n)
}

// apart is the same keep, told on a copy of its disk.
func (m *keepTold) apart() *keepTold {
	other := *m
	other.log = m.log.Copy()
	other.d = other.log.Disk()
	return &other
}

// room is a disk without files.
func room(t *testing.T, n int) *disk.Disk {
	t.Helper()
	d, e := disk.New(n)
	if e != api.OK {
		t.Fatalf("disk.New(%d) = %v", n, e)
	}
	return d
}

// with is a disk with files, none of them sure.
func with(t *testing.T, files map[string]string) *disk.Disk {
	t.Helper()
	d := room(t, 1<<23)
	for name, b := range files {
		done(t, d, step{call: "Append", name: name, bytes: b})
	}
	return d
}

func done(t *testing.T, d *disk.Disk, all ...step) {
	t.Helper()
	for _, x := range all {
		if e := stepped(d, x); e != api.OK {
			t.Fatalf("%s of %s = %v", x.call, x.name, e)
		}
	}
}

// dies makes a disk dead.
func dies(t *testing.T, d *disk.Disk) {
	t.Helper()
	done(t, d, step{call: "Stop"})
	if e := d.Append("x", nil); e != api.ErrDead {
		t.Fatalf("Append = %v", e)
	}
}

// open opens a keep on a disk, and tells it on a copy of that, and asks that both go alike, step by step.
func open(t *testing.T, d *disk.Disk, name string, per int) (*snap.Keep, *keepTold, api.Errno) {
	t.Helper()
	m := &keepTold{d: d.Copy(), name: name, per: per}
	was := d.Copy()
	k, e := snap.Open(d, name, per)
	if want := m.open(); e != want {
		t.Fatalf("Open = %v, not %v", e, want)
	}
	if !disk.Same(d, m.d) {
		t.Fatalf("Open does other steps than are told: %q, not %q", d.Names(), m.d.Names())
	}
	if (e == api.ErrRotten || e == api.ErrSpoilt) && !disk.Same(d, was) {
		t.Fatal("a keep that is rotten is mended")
	}
	if e != api.OK {
		if k != nil {
			t.Fatalf("Open = %v, and a keep", e)
		}
		return nil, m, e
	}
	if k == nil || k.Disk() != d {
		t.Fatal("Open: no keep on its disk")
	}
	stands(t, k, m)
	return k, m, e
}

// begun is a keep of nothing, and one as it is told; steps of their disks are counted.
func begun(t *testing.T, per int) (*snap.Keep, *keepTold) {
	t.Helper()
	d := room(t, 1<<20)
	done(t, d, step{call: "Stop", n: countless})
	k, m, _ := open(t, d, "k", per)
	return k, m
}

// gathered is what an iterator goes over.
func gathered(all iter.Seq2[int64, []byte]) []record {
	var list []record
	for n, b := range all {
		list = append(list, record{n, string(b)})
	}
	return list
}

// stands asks whether a keep is as is told, in all that can be seen of it.
func stands(t *testing.T, k *snap.Keep, m *keepTold) {
	t.Helper()
	if !disk.Same(k.Disk(), m.d) {
		t.Fatalf("its disk is another: %q, not %q", k.Disk().Names(), m.d.Names())
	}
	if state, n := k.State(); string(state) != m.state || n != m.n {
		t.Fatalf("State = %.40q, %d, not %.40q, %d", state, n, m.state, m.n)
	}
	if next, sure := k.Ends(); next != m.next() || sure != m.sure() {
		t.Fatalf("Ends = %d %d, not %d %d", next, sure, m.next(), m.sure())
	}
	if got, want := gathered(k.Behind()), m.behind(); !slices.Equal(got, want) {
		t.Fatalf("Behind goes over %v, not %v", got, want)
	}
	if !disk.Same(k.Disk(), m.d) {
		t.Fatal("asking changes the disk")
	}
}

// puts puts a record both ways, and asks that they go alike.
func puts(t *testing.T, k *snap.Keep, m *keepTold, b string) api.Errno {
	t.Helper()
	n, e := k.Put([]byte(b))
	if want, why := m.log.Put([]byte(b)); n != want || e != why {
		t.Fatalf("Put of %d bytes = %d, %v, not %d, %v", len(b), n, e, want, why)
	}
	stands(t, k, m)
	return e
}

func syncs(t *testing.T, k *snap.Keep, m *keepTold) api.Errno {
	t.Helper()
	e := k.Sync()
	if want := m.log.Sync(); e != want {
		t.Fatalf("Sync = %v, not %v", e, want)
	}
	stands(t, k, m)
	return e
}

func saves(t *testing.T, k *snap.Keep, m *keepTold, state string) api.Errno {
	t.Helper()
	e := k.Save([]byte(state))
	if want := m.save(state); e != want {
		t.Fatalf("Save of %d bytes = %v, not %v", len(state), e, want)
	}
	stands(t, k, m)
	return e
}

// is asks that an error is the one that is told here, whatever was told by steps.
func is(t *testing.T, e, want api.Errno) {
	t.Helper()
	if e != want {
		t.Fatalf("%v, not %v", e, want)
	}
}

// some makes n bytes that look like none of a kind, the same each time.
func some(n int, seed uint32) string {
	b := make([]byte, n)
	for i := range b {
		seed = seed*1664525 + 1013904223
		b[i] = byte(seed >> 24)
	}
	return string(b)
}

// fill puts so many records, of which most segments have a few.
func fill(t *testing.T, k *snap.Keep, m *keepTold, many int) {
	t.Helper()
	for i := range many {
		is(t, puts(t, k, m, some(i*7%23, uint32(i))), api.OK)
	}
}

// long is a keep of records, so many ahead of its state, and so many behind it.
func long(t *testing.T, ahead, behind int) (*snap.Keep, *keepTold) {
	t.Helper()
	k, m := begun(t, 64)
	fill(t, k, m, ahead)
	is(t, saves(t, k, m, some(30, uint32(ahead))), api.OK)
	fill(t, k, m, behind)
	return k, m
}

// crashed is the keep that is opened on what a crash leaves, where steps are counted.
func crashed(t *testing.T, m *keepTold, picks ...int) (*snap.Keep, *keepTold) {
	t.Helper()
	c, e := m.d.Crash(picks...)
	if e != api.OK {
		t.Fatalf("Crash(%v) = %v", picks, e)
	}
	done(t, c, step{call: "Stop", n: countless})
	k, other, e := open(t, c, m.name, m.per)
	if e != api.OK {
		t.Fatalf("behind a crash Open = %v", e)
	}
	return k, other
}

// keeps crashes a keep, and asks what the document promises of what is left.
func keeps(t *testing.T, k *snap.Keep, m *keepTold, picks ...int) (*snap.Keep, *keepTold) {
	t.Helper()
	was, wasN := k.State()
	_, sure := k.Ends()
	records := gathered(k.Behind())
	left, told := crashed(t, m, picks...)
	state, n := left.State()
	if !bytes.Equal(state, was) || n != wasN {
		t.Fatalf("of the state %.40q, %d a crash leaves %.40q, %d", was, wasN, state, n)
	}
	all := gathered(left.Behind())
	if len(all) > len(records) || !slices.Equal(all, records[:len(all)]) || int64(len(all)) < sure-(n-1) {
		t.Fatalf("of %v (sure up to %d) a crash leaves %v", records, sure, all)
	}
	next, last := left.Ends()
	if next != n+int64(len(all)) || last != next-1 {
		t.Fatalf("behind a crash Ends = %d %d, and there are %d records from %d on", next, last, len(all), n)
	}
	d := left.Disk().Copy()
	done(t, d, step{call: "Stop"})
	stays := d.Copy()
	again, e := snap.Open(d, m.name, m.per)
	if e != api.OK || !disk.Same(d, stays) {
		t.Fatalf("opened again: %v", e)
	}
	same, sameN := again.State()
	sameNext, sameLast := again.Ends()
	if !bytes.Equal(same, state) || sameN != n || sameNext != next || sameLast != last || !slices.Equal(gathered(again.Behind()), all) {
		t.Fatal("opened again it is another")
	}
	return left, told
}

// nones are keeps that are not there.
func nones() []*snap.Keep {
	refused, _ := snap.Open(nil, "k", 64)
	var nobody *snap.Keep
	return []*snap.Keep{nil, {}, new(snap.Keep), refused, nobody.Copy(), new(snap.Keep).Copy()}
}

func TestExamples(t *testing.T) { // P9.1, P9.2
	d := room(t, 1000)
	k, e := snap.Open(d, "k", 64)
	is(t, e, api.OK)
	has := func(k *snap.Keep, state string, number int64, behind ...record) {
		t.Helper()
		if b, n := k.State(); string(b) != state || n != number {
			t.Errorf("State = %q, %d, not %q, %d", b, n, state, number)
		}
		if all := gathered(k.Behind()); !slices.Equal(all, behind) {
			t.Errorf("Behind goes over %v, not %v", all, behind)
		}
	}
	has(k, "", 1)
	n, e := k.Put([]byte("hi"))
	if n != 1 || e != api.OK {
		t.Errorf("Put = %d, %v", n, e)
	}
	has(k, "", 1, record{1, "hi"})
	is(t, k.Save([]byte("one")), api.OK)
	has(k, "one", 2)
	n, e = k.Put([]byte("ho"))
	if n != 2 || e != api.OK {
		t.Errorf("Put = %d, %v", n, e)
	}
	has(k, "one", 2, record{2, "ho"})
	c, _ := d.Crash()
	k, e = snap.Open(c, "k", 64)
	is(t, e, api.OK)
	has(k, "one", 2)
}

// holds asks that just these files stand on a disk.
func holds(t *testing.T, d *disk.Disk, files map[string]string) {
	t.Helper()
	if len(d.Names()) != len(files) {
		t.Errorf("there are %q", d.Names())
	}
	for name, want := range files {
		if b, e := d.Read(name); string(b) != want || e != api.OK {
			t.Errorf("%s has %.60q, %v, not %.60q", name, b, e, want)
		}
	}
}

func TestBytes(t *testing.T) { // P9.1: what stands in the files, and what of it is sure
	k, _ := begun(t, 64)
	k.Put([]byte("hi"))
	k.Put([]byte("ho"))
	holds(t, k.Disk(), map[string]string{nameOf(1): fileOf(1, "hi", "ho")})
	is(t, k.Save([]byte("one")), api.OK)
	holds(t, k.Disk(), map[string]string{nameOf(1): fileOf(1, "hi", "ho"), "k.s0000000003": "\x03one\x11\x2f\xdc\xb6"})
	for _, name := range k.Disk().Names() {
		b, _ := k.Disk().Read(name)
		if n, _ := k.Disk().Sure(name); n != len(b) {
			t.Errorf("of %s %d of %d bytes are sure", name, n, len(b))
		}
	}
	k.Put(make([]byte, 60))
	is(t, k.Save(nil), api.OK)
	holds(t, k.Disk(), map[string]string{nameOf(3): fileOf(3, string(make([]byte, 60))), "k.s0000000004": stateOf(4, "")})
	for range 296 {
		k.Put(nil)
	}
	is(t, k.Save([]byte("\x00")), api.OK)
	if b, e := k.Disk().Read("k.s0000000300"); string(b) != sealTold("\xac\x02\x00") || e != api.OK {
		t.Errorf("the state 300 has %q, %v", b, e)
	}
}

func TestNamesAndPers(t *testing.T) { // P9.1: as layer 8's logs have
	may := regexp.MustCompile(`^[a-z0-9]{1,8}$`)
	names := []string{"", "k", "0", "k.", ".k", "K", "k s", "é", "ａ", "٣", "\xff", "abcdefgh", "abcdefghi", "12345678", "123456789", "z9", "s", "tmp", strings.Repeat("k", 1<<20)}
	for c := range 256 {
		names = append(names, string([]byte{'k', byte(c)}))
	}
	for _, name := range names {
		for _, per := range []int{math.MinInt, -64, 0, 63, 64, 65, 65536, 65537, 1<<32 + 64, math.MaxInt} {
			d := room(t, 1<<12)
			k, e := snap.Open(d, name, per)
			if !may.MatchString(name) || per < 64 || per > 65536 {
				if k != nil || e != api.ErrArg {
					t.Errorf("Open(%.20q, %d) = %v, %v", name, per, k, e)
				}
				continue
			}
			is(t, e, api.OK)
			k.Put([]byte("hi"))
			is(t, k.Save([]byte("one")), api.OK)
			holds(t, d, map[string]string{name + ".0000000001": fileOf(1, "hi"), name + ".s0000000002": stateOf(2, "one")})
		}
	}
	for _, per := range []int{64, 65, 200, 65536} {
		k, m := begun(t, per)
		fill(t, k, m, 30)
		if many := len(m.log.Files()); (many == 1) != (per == 65536) {
			t.Errorf("Per %d: %d segments", per, many)
		}
		is(t, saves(t, k, m, "state"), api.OK)
	}
}

func TestOrderOfErrors(t *testing.T) { // P9.1: no disk, what may not be, a rotten log, a spoilt keep, the disk's
	refused, _ := disk.New(-1)
	for _, d := range []*disk.Disk{nil, new(disk.Disk), refused} {
		for _, name := range []string{"k", "", "K"} {
			for _, per := range []int{64, 63} {
				if k, e := snap.Open(d, name, per); k != nil || e != api.ErrNil {
					t.Errorf("Open on no disk = %v, %v", k, e)
				}
			}
		}
	}
	rotten := map[string]string{nameOf(1): fileOf(1), nameOf(2): fileOf(2)}
	both := map[string]string{nameOf(1): fileOf(1), nameOf(2): fileOf(2), nameOfState(9): "spoilt", "k.tmp": "x"}
	spoilt := map[string]string{nameOf(1): fileOf(1, "a") + "torn", nameOfState(9): "spoilt", nameOfState(1): stateOf(1, ""), "k.tmp": "x"}
	sound := map[string]string{nameOf(1): fileOf(1, "a"), nameOfState(1): stateOf(1, ""), "k.tmp": "x"}
	for i, files := range []map[string]string{rotten, both, spoilt, sound} {
		dead, stops := with(t, files), with(t, files)
		dies(t, dead)
		done(t, stops, step{call: "Stop"})
		for _, d := range []*disk.Disk{with(t, files), dead, stops} {
			was := d.Copy()
			for name, per := range map[string]int{"": 64, "K": 64, "k": 63, "k.": 65537} {
				if k, e := snap.Open(d, name, per); k != nil || e != api.ErrArg || !disk.Same(d, was) {
					t.Errorf("Open(%q, %d) = %v, %v", name, per, k, e)
				}
			}
			_, _, e := open(t, d, "k", 64)
			if i < 2 {
				is(t, e, api.ErrRotten)
			} else if i == 2 {
				is(t, e, api.ErrSpoilt)
			} else if d == dead || d == stops {
				is(t, e, api.ErrDead)
			} else {
				is(t, e, api.OK)
			}
		}
	}
}

// opens opens a keep of files, all of them sure or none, and asks for the error; if it is rotten, asks so also on a disk that is dead, or stops.
func opens(t *testing.T, why string, files map[string]string, want api.Errno) {
	t.Helper()
	unsure := with(t, files)
	sure, _ := unsure.Crash(slices.Repeat([]int{-1}, len(files))...)
	all := []*disk.Disk{unsure, sure}
	if want != api.OK {
		dead, stops := unsure.Copy(), sure.Copy()
		dies(t, dead)
		done(t, stops, step{call: "Stop"})
		all = append(all, dead, stops)
	}
	for _, d := range all {
		if _, _, e := open(t, d, "k", 64); e != want {
			t.Errorf("%s: Open = %v, not %v", why, e, want)
		}
	}
}

func TestStatesThatAreNone(t *testing.T) { // P9.1
	two := fileOf(1, "a")
	big := strings.Repeat("x", 1<<20)
	for why, state := range map[string]string{
		"nothing":                    "",
		"three bytes":                "\x00\x00\x00",
		"no number":                  sealTold(""),
		"another number":             stateOf(1, "one"),
		"a later number":             stateOf(3, "one"),
		"a number in a longer form":  sealTold("\x82\x00one"),
		"a number that is cut":       sealTold("\x82"),
		"a number with more behind":  sealTold("\x82\x01one"),
		"not sealed":                 "\x02one",
		"another sum":                "\x02one\x00\x00\x00\x00",
		"a byte more":                stateOf(2, "one") + "\x00",
		"a byte less":                stateOf(2, "one")[:7],
		"a byte ahead":               "\x02" + stateOf(2, "one"),
		"a sum that stands backward": "\x02one" + backward(stateOf(2, "one")[4:]),
		"a text":                     "one",
		"a frame":                    frameTold("\x02one"),
		"sealed twice less":          stateOf(2, "one")[1:],
		"more bytes than may be":     stateOf(2, big+"x"),
	} {
		opens(t, why, map[string]string{nameOf(1): two, nameOfState(2): state}, api.ErrSpoilt)
		opens(t, why+", an elder one", map[string]string{nameOf(1): two, nameOfState(2): state, nameOfState(1): stateOf(1, "one")}, api.ErrSpoilt)
		opens(t, why+", an elder one is", map[string]string{nameOf(1): fileOf(1, "a", "b"), nameOfState(2): state, nameOfState(3): stateOf(3, "one")}, api.OK)
	}
	for why, state := range map[string]string{"nothing": "", "noughts": "\x00\x00\x00\x00", "a state": "one", "a sealed one": stateOf(2, "one"), "as many bytes as may be": big, "one less": big[1:]} {
		opens(t, why, map[string]string{nameOf(1): two, nameOfState(2): stateOf(2, state)}, api.OK)
	}
}

func backward(s string) string {
	b := []byte(s)
	slices.Reverse(b)
	return string(b)
}

func TestSoundAndSpoilt(t *testing.T) { // P9.1: where the log begins and goes on, and the state's number
	for _, row := range []struct {
		log   string // of the number 4
		state []int64
		want  api.Errno
	}{
		{"", nil, api.OK}, {"", []int64{1}, api.OK}, {"", []int64{0}, api.ErrSpoilt}, {"", []int64{2}, api.ErrSpoilt}, {"", []int64{4}, api.ErrSpoilt}, {"", []int64{9999999999}, api.ErrSpoilt},
		{fileOf(4), nil, api.ErrSpoilt}, {fileOf(4), []int64{4}, api.OK}, {fileOf(4), []int64{3}, api.ErrSpoilt}, {fileOf(4), []int64{5}, api.ErrSpoilt}, {fileOf(4), []int64{1}, api.ErrSpoilt},
		{fileOf(4, "a", "b"), nil, api.ErrSpoilt}, {fileOf(4, "a", "b"), []int64{3}, api.ErrSpoilt}, {fileOf(4, "a", "b"), []int64{4}, api.OK}, {fileOf(4, "a", "b"), []int64{5}, api.OK},
		{fileOf(4, "a", "b"), []int64{6}, api.OK}, {fileOf(4, "a", "b"), []int64{7}, api.ErrSpoilt}, {fileOf(4, "a", "b"), []int64{1}, api.ErrSpoilt}, {fileOf(4, "a", "b"), []int64{0}, api.ErrSpoilt},
		{fileOf(4, "a", "b") + "torn", []int64{6}, api.OK}, {fileOf(4, "a", "b") + "torn", []int64{7}, api.ErrSpoilt}, {fileOf(4, "a", "b") + frameTold("c")[:5], []int64{7}, api.ErrSpoilt},
		{fileOf(4, "a", "b"), []int64{3, 5}, api.OK}, {fileOf(4, "a", "b"), []int64{5, 7}, api.ErrSpoilt}, {fileOf(4, "a", "b"), []int64{1, 2, 3}, api.ErrSpoilt}, {fileOf(4, "a", "b"), []int64{0, 1, 2, 3, 4}, api.OK},
		{"torn", nil, api.OK}, {"torn", []int64{1}, api.OK}, {"torn", []int64{4}, api.ErrSpoilt}, {"torn", []int64{3}, api.ErrSpoilt},
	} {
		files := map[string]string{}
		if row.log != "" {
			files[nameOf(4)] = row.log
		}
		for _, n := range row.state {
			files[nameOfState(n)] = stateOf(n, "state")
		}
		opens(t, fmt.Sprintf("%q, states %v", row.log, row.state), files, row.want)
	}
	for begins, want := range map[int64]api.Errno{0: api.ErrSpoilt, 1: api.OK, 2: api.ErrSpoilt, 10: api.ErrSpoilt, 9999999999: api.ErrSpoilt} {
		for _, b := range []string{fileOf(begins), fileOf(begins, "a"), fileOf(begins, "a", "b") + "\x05"} {
			opens(t, fmt.Sprintf("a log from %d on", begins), map[string]string{nameOf(begins): b}, want)
		}
	}
	opens(t, "nought", map[string]string{nameOf(0): fileOf(0, "a"), nameOfState(0): stateOf(0, "state")}, api.OK)
	opens(t, "a long log", map[string]string{nameOf(1): fileOf(1, "a"), nameOf(2): fileOf(2, "b"), nameOf(3): fileOf(3, "c"), nameOfState(2): stateOf(2, "state")}, api.OK)
	opens(t, "a log that goes on with a torn file", map[string]string{nameOf(1): fileOf(1, "a"), nameOf(2): "torn", nameOfState(2): stateOf(2, "state")}, api.OK)
}

// torn is the files of a keep of which all is to be mended that can be.
func torn() map[string]string {
	return map[string]string{
		nameOf(1): fileOf(1, "a", "b"), nameOf(3): fileOf(3, "c"), nameOf(4): fileOf(4, "d"), nameOf(5): fileOf(5, "e", "f") + "torn",
		"k.tmp": stateOf(7, "draft"), nameOfState(0): "x", nameOfState(2): stateOf(2, "elder"), nameOfState(4): stateOf(4, "state"), nameOfState(1): "", nameOfState(3): stateOf(1, ""),
		"l.tmp": "other", "l.0000000007": "other", "l.s0000000007": "other",
	}
}

func TestMend(t *testing.T) { // P9.1: in order, whatever of it is to be done
	k, _, e := open(t, with(t, torn()), "k", 64)
	is(t, e, api.OK)
	holds(t, k.Disk(), map[string]string{
		nameOf(4): fileOf(4, "d"), nameOf(5): fileOf(5, "e", "f"), nameOfState(4): stateOf(4, "state"),
		"l.tmp": "other", "l.0000000007": "other", "l.s0000000007": "other",
	})
	if n, _ := k.Disk().Sure(nameOf(5)); n != len(fileOf(5, "e", "f")) {
		t.Errorf("of the last segment %d bytes are sure", n)
	}
	for without := range 64 {
		files := torn()
		for i, names := range [][]string{{"k.tmp"}, {nameOfState(0)}, {nameOfState(1), nameOfState(3)}, {nameOfState(2)}, {nameOf(1)}, {nameOf(1), nameOf(3)}} {
			if without>>i&1 == 1 {
				for _, name := range names {
					delete(files, name)
				}
			}
		}
		if without%2 == 1 {
			files[nameOf(5)] = fileOf(5, "e", "f")
		}
		for stop := 0; ; stop++ {
			d := with(t, files)
			done(t, d, step{call: "Stop", n: stop})
			_, _, e := open(t, d, "k", 64)
			if e == api.OK {
				break
			}
			is(t, e, api.ErrDead)
			c, _ := d.Crash(slices.Repeat([]int{-1}, len(files))...)
			k, _, e := open(t, c, "k", 64)
			is(t, e, api.OK)
			if state, n := k.State(); string(state) != "state" || n != 4 || !slices.Equal(gathered(k.Behind()), []record{{4, "d"}, {5, "e"}, {6, "f"}}) {
				t.Fatalf("stopped behind %d steps it is another: %q, %d", stop, state, n)
			}
		}
	}
}

func TestMendOrder(t *testing.T) { // P9.1: the log, the draft, the elder states, rising, what is dropped
	gone := []string{"k.tmp", nameOfState(0), nameOfState(1), nameOfState(2), nameOfState(3), "", nameOf(1), nameOf(3)}
	for stop := range 11 {
		d := with(t, torn())
		many := len(d.Names())
		done(t, d, step{call: "Stop", n: stop})
		k, e := snap.Open(d, "k", 64)
		if stop >= 9 && e != api.OK || stop < 9 && (k != nil || e != api.ErrDead) {
			t.Fatalf("of %d steps Open = %v", stop, e)
		}
		b, _ := d.Read(nameOf(5))
		if good := len(fileOf(5, "e", "f")); len(b) == good != (stop > 0) {
			t.Errorf("of %d steps the last segment has %d bytes", stop, len(b))
		}
		sure, _ := d.Sure(nameOf(5))
		if sure > 0 != (stop > 6) {
			t.Errorf("of %d steps %d bytes of the last segment are sure", stop, sure)
		}
		for i, name := range gone {
			if there := slices.Contains(d.Names(), name); name != "" && there != (stop < i+2) {
				t.Errorf("of %d steps: %s is there: %v", stop, name, there)
			}
		}
		if len(d.Names()) < many-len(gone)+1 {
			t.Errorf("of %d steps %q are left", stop, d.Names())
		}
	}
}

func TestMendDropsOnlySegments(t *testing.T) { // P9.1: where none goes no step is done
	for n := int64(1); n <= 7; n++ {
		files := map[string]string{nameOf(1): fileOf(1, "a", "b"), nameOf(3): fileOf(3, "c", "d"), nameOf(5): fileOf(5, "e", "f"), nameOfState(n): stateOf(n, "state")}
		d := with(t, files)
		done(t, d, step{call: "Stop"})
		was := d.Copy()
		_, _, e := open(t, d, "k", 64)
		if n < 3 && (e != api.OK || !disk.Same(d, was)) || n >= 3 && e != api.ErrDead {
			t.Errorf("with the state %d on a disk that stops Open = %v", n, e)
		}
		k, _, e := open(t, with(t, files), "k", 64)
		is(t, e, api.OK)
		all := slices.DeleteFunc(k.Disk().Names(), func(name string) bool { return strings.HasPrefix(name, "k.s") })
		if want := []string{nameOf(1), nameOf(3), nameOf(5)}[min(2, (n-1)/2):]; !slices.Equal(all, want) {
			t.Errorf("with the state %d there are %q, not %q", n, all, want)
		}
	}
	for _, b := range []string{fileOf(1), fileOf(1, "a"), fileOf(1, "a", "b", "c")} {
		d := with(t, map[string]string{nameOf(1): b, nameOfState(1): stateOf(1, "state")})
		dies(t, d)
		_, _, e := open(t, d, "k", 64)
		is(t, e, api.OK)
	}
}

func TestWhichFilesAreTheKeeps(t *testing.T) { // P9.1
	others := map[string]string{
		"k": "x", "k.": "x", "k.s": "x", "k.s1": "x", "k.s000000009": "x", "k.s00000000009": "x", "k.s000000000a": "x", "k.sa000000009": "x", "k.s00000.0009": "x", "k.s0000000009.": "x",
		"k.t0000000009": "x", "k.ss000000009": "x", "kk.s0000000009": "x", "l.s0000000009": "x", ".s0000000009": "x", "s0000000009": "x", "k0.s0000000009": "x", "ks0000000009": "x", "k..s0000000009": "x",
		"k.s.0000000009": "x", "k.tmp.": "x", "k.tmp0": "x", "k.tm": "x", "kk.tmp": "x", "tmp": "x", ".tmp": "x", "ktmp": "x", "k.s.tmp": "x", "k.tmp.s0000000009": "x",
	}
	k, m, e := open(t, with(t, others), "k", 64)
	is(t, e, api.OK)
	for _, state := range []string{"one", "two", "three"} {
		fill(t, k, m, 12)
		is(t, saves(t, k, m, state), api.OK)
	}
	if len(k.Disk().Names()) != len(others)+2 {
		t.Errorf("there are %q", k.Disk().Names())
	}
	for name := range others {
		if b, e := k.Disk().Read(name); string(b) != "x" || e != api.OK {
			t.Errorf("%s has %q, %v", name, b, e)
		}
	}
}

func TestSave(t *testing.T) { // P9.1: the steps, in order, whatever stands there, wherever the disk stops
	for ahead := range 9 {
		for behind := range 7 {
			for _, draft := range []bool{false, true} {
				for stop := 0; ; stop++ {
					k, m := long(t, ahead, behind)
					if ahead == 0 {
						k, m = begun(t, 64)
						fill(t, k, m, behind)
					}
					if draft {
						done(t, k.Disk(), step{call: "Append", name: "k.tmp", bytes: "draft"})
						done(t, m.d, step{call: "Append", name: "k.tmp", bytes: "draft"})
					}
					done(t, k.Disk(), step{call: "Stop", n: stop})
					done(t, m.d, step{call: "Stop", n: stop})
					e := saves(t, k, m, "another state")
					for _, pick := range []int{0, 1, -1, 40} {
						keeps(t, k, m, pick, pick, pick, pick)
					}
					if e == api.OK {
						break
					}
					is(t, e, api.ErrDead)
				}
			}
		}
	}
}

func TestSaveStepByStep(t *testing.T) { // P9.1: what each step does, told here and not by steps of a model
	for stop := range 12 {
		k, e := snap.Open(room(t, 1000), "k", 64)
		is(t, e, api.OK)
		k.Put([]byte(some(40, 1)))
		is(t, k.Save([]byte("elder")), api.OK)
		k.Put([]byte(some(40, 2)))
		done(t, k.Disk(), step{call: "Append", name: "k.tmp", bytes: "draft"}, step{call: "Stop", n: stop})
		if e := k.Save([]byte("new")); e != api.OK && (e != api.ErrDead || stop > 7) || e == api.OK && stop < 8 {
			t.Fatalf("of %d steps Save = %v", stop, e)
		}
		state, n := k.State()
		if isNew := stop > 4; isNew && (string(state) != "new" || n != 3) || !isNew && (string(state) != "elder" || n != 2) {
			t.Errorf("of %d steps State = %q, %d", stop, state, n)
		}
		if n, _ := k.Disk().Sure(nameOf(2)); n > 0 != (stop > 0) {
			t.Errorf("of %d steps %d bytes are sure", stop, n)
		}
		draft, _ := k.Disk().Read("k.tmp")
		if want := []string{"draft", "draft", "", stateOf(3, "new"), stateOf(3, "new"), ""}[min(stop, 5)]; string(draft) != want {
			t.Errorf("of %d steps the draft is %q", stop, draft)
		}
		if n, _ := k.Disk().Sure("k.tmp"); n > 0 != (stop == 4) {
			t.Errorf("of %d steps %d bytes of the draft are sure", stop, n)
		}
		for name, there := range map[string]bool{nameOfState(2): stop < 6, nameOfState(3): stop > 4, nameOf(1): stop < 8, nameOf(2): true} {
			if slices.Contains(k.Disk().Names(), name) != there {
				t.Errorf("of %d steps: %s is there: %v", stop, name, !there)
			}
		}
	}
}

func TestSaveOfTheSameNumber(t *testing.T) { // P9.1: comes in place of the elder one, and is not removed as that
	k, m := begun(t, 64)
	for i := range 4 {
		for _, state := range []string{"one", "", "two", "two", "another one"} {
			is(t, saves(t, k, m, state), api.OK)
			if b, n := k.State(); string(b) != state || n != int64(i+1) {
				t.Fatalf("State = %q, %d", b, n)
			}
			keeps(t, k, m)
			for stop := range 8 {
				c, told := k.Copy(), m.apart()
				done(t, c.Disk(), step{call: "Stop", n: stop})
				done(t, told.d, step{call: "Stop", n: stop})
				saves(t, c, told, "instead")
				keeps(t, c, told)
			}
		}
		is(t, puts(t, k, m, "more"), api.OK)
	}
}

func TestSaveRefuses(t *testing.T) { // P9.1: too much; what is ahead of a step that is refused is done
	k, m := long(t, 6, 4)
	for _, size := range []int{1<<20 + 1, 1<<20 + 2, 1 << 21} {
		is(t, saves(t, k, m, strings.Repeat("x", size)), api.ErrLong)
		dead := k.Copy()
		dies(t, dead.Disk())
		is(t, dead.Save(make([]byte, size)), api.ErrLong)
		is(t, dead.Save([]byte("x")), api.ErrDead)
	}
	is(t, puts(t, k, m, strings.Repeat("x", 2049)), api.ErrLong)
	d := room(t, 3<<20)
	k, m, _ = open(t, d, "k", 64)
	fill(t, k, m, 5)
	for _, size := range []int{1 << 20, 1<<20 - 1, 0, 1 << 20} {
		is(t, saves(t, k, m, some(size, 3)), api.OK)
		is(t, puts(t, k, m, "more"), api.OK)
		keeps(t, k, m)
	}
}

func TestSaveWithoutRoom(t *testing.T) { // P9.1: the elder state stays, and the records are sure
	d := room(t, 200)
	k, m, _ := open(t, d, "k", 64)
	fill(t, k, m, 3)
	is(t, saves(t, k, m, some(50, 1)), api.OK)
	is(t, puts(t, k, m, "more"), api.OK)
	done(t, k.Disk(), step{call: "Append", name: "k.tmp", bytes: "draft"})
	done(t, m.d, step{call: "Append", name: "k.tmp", bytes: "draft"})
	is(t, saves(t, k, m, some(90, 2)), api.ErrRoom)
	if state, n := k.State(); string(state) != some(50, 1) || n != 4 || slices.Contains(d.Names(), "k.tmp") {
		t.Errorf("State = %q, %d; there are %q", state, n, d.Names())
	}
	if next, sure := k.Ends(); next != 5 || sure != 4 {
		t.Errorf("Ends = %d %d", next, sure)
	}
	keeps(t, k, m)
	is(t, saves(t, k, m, some(40, 3)), api.OK)
	keeps(t, k, m)
	for size := range 200 {
		saves(t, k, m, some(size, 4))
		keeps(t, k, m, size)
	}
}

func TestGreatestNumbers(t *testing.T) { // P9.1: a state behind the last record that there can be; a number that no name can tell
	for _, n := range []int64{1<<31 - 2, 1<<31 - 1} {
		k, m, e := open(t, with(t, map[string]string{nameOf(n): fileOf(n), nameOfState(n): stateOf(n, "state")}), "k", 64)
		is(t, e, api.OK)
		for puts(t, k, m, "x") == api.OK {
			is(t, saves(t, k, m, "another"), api.OK)
			keeps(t, k, m)
		}
		is(t, puts(t, k, m, "x"), api.ErrLong)
		is(t, saves(t, k, m, "the last"), api.OK)
		if state, at := k.State(); string(state) != "the last" || at != 1<<31 {
			t.Errorf("State = %q, %d", state, at)
		}
		keeps(t, k, m)
	}
	const most = 9999999999
	k, m, e := open(t, with(t, map[string]string{nameOf(most): fileOf(most), nameOfState(most): stateOf(most, "state")}), "k", 64)
	is(t, e, api.OK)
	is(t, saves(t, k, m, "another"), api.OK)
	keeps(t, k, m)
	k, m, e = open(t, with(t, map[string]string{nameOf(most): fileOf(most, "a", "b"), nameOfState(most): stateOf(most, "state")}), "k", 64)
	is(t, e, api.OK)
	is(t, saves(t, k, m, "another"), api.ErrLong)
	if state, n := k.State(); string(state) != "state" || n != most || len(gathered(k.Behind())) != 2 {
		t.Errorf("State = %q, %d", state, n)
	}
	is(t, syncs(t, k, m), api.OK)
}

func TestState(t *testing.T) { // P9.2: of none nothing, and 1; then what was saved, with the number that came next
	k, m := begun(t, 64)
	for i := range 20 {
		if state, n := k.State(); len(state) != 0 || n != 1 {
			t.Fatalf("State = %q, %d", state, n)
		}
		is(t, puts(t, k, m, some(i, 1)), api.OK)
		is(t, syncs(t, k, m), api.OK)
	}
	for i := range 20 {
		state := some(i*i, uint32(i))
		is(t, saves(t, k, m, state), api.OK)
		for range i % 4 {
			is(t, puts(t, k, m, some(i, 1)), api.OK)
		}
		next, _ := k.Ends()
		if b, n := k.State(); string(b) != state || n != next-int64(i%4) {
			t.Fatalf("State = %q, %d", b, n)
		}
	}
}

func TestEnds(t *testing.T) { // P9.2: sure is what the log says, or, if that is less, what is ahead of the state
	files := map[string]string{nameOf(3): fileOf(3, "a", "b"), nameOf(5): fileOf(5, "c", "d")}
	for n := int64(3); n < 5; n++ {
		for upTo := int64(2); upTo <= 6; upTo++ {
			d := room(t, 1000)
			done(t, d, step{call: "Append", name: nameOfState(n), bytes: stateOf(n, "state")})
			left := upTo - 2
			for _, at := range []int64{3, 5} {
				records := []string{"a", "b", "c", "d"}[at-3 : at-1]
				many := min(2, left)
				left -= many
				done(t, d, step{call: "Append", name: nameOf(at), bytes: fileOf(at, records[:many]...)}, step{call: "Sync", name: nameOf(at)}, step{call: "Append", name: nameOf(at), bytes: files[nameOf(at)][len(fileOf(at, records[:many]...)):]})
			}
			k, _, e := open(t, d, "k", 64)
			is(t, e, api.OK)
			if next, sure := k.Ends(); next != 7 || sure != max(upTo, n-1) {
				t.Errorf("of the state %d, and sure up to %d: %d %d", n, upTo, next, sure)
			}
		}
	}
	k, m := begun(t, 64)
	ends := func(n, s int64) {
		t.Helper()
		if next, sure := k.Ends(); next != n || sure != s {
			t.Errorf("Ends = %d %d, not %d %d", next, sure, n, s)
		}
	}
	ends(1, 0)
	saves(t, k, m, "")
	ends(1, 0)
	puts(t, k, m, "a")
	ends(2, 0)
	saves(t, k, m, "one")
	ends(2, 1)
	puts(t, k, m, "b")
	ends(3, 1)
	syncs(t, k, m)
	ends(3, 2)
}

func TestPutAndSync(t *testing.T) { // P9.1: layer 8's
	k, m := begun(t, 64)
	l, e := wal.Open(room(t, 1<<20), "k", 64)
	is(t, e, api.OK)
	for i, size := range []int{0, 1, 60, 2047, 2048, 2049, 0, 5, 50, 4096, 30, 1 << 20, 2} {
		b := []byte(some(size, uint32(i)))
		n, e := k.Put(b)
		want, why := l.Put(b)
		if n != want || e != why {
			t.Errorf("Put of %d bytes = %d, %v, not %d, %v", size, n, e, want, why)
		}
		m.log.Put(b)
		if i%3 == 0 {
			is(t, syncs(t, k, m), l.Sync())
		}
		next, sure := k.Ends()
		if _, n, s := l.Ends(); n != next || s != sure {
			t.Errorf("Ends = %d %d, not %d %d", next, sure, n, s)
		}
	}
	holds(t, k.Disk(), contents(l.Disk()))
	dies(t, k.Disk())
	if n, e := k.Put(nil); n != 0 || e != api.ErrDead {
		t.Errorf("Put on a dead disk = %d, %v", n, e)
	}
	if n, e := k.Put(make([]byte, 2049)); n != 0 || e != api.ErrLong {
		t.Errorf("Put of too much on a dead disk = %d, %v", n, e)
	}
	is(t, k.Sync(), api.ErrDead)
}

func contents(d *disk.Disk) map[string]string {
	files := map[string]string{}
	for _, name := range d.Names() {
		b, _ := d.Read(name)
		files[name] = string(b)
	}
	return files
}

func TestBehind(t *testing.T) { // P9.2: also where the log's files have records ahead of the state
	for ahead := range 8 {
		for behind := range 8 {
			k, _ := begun(t, 65536)
			var want []record
			for i := range ahead {
				k.Put([]byte(some(i, 1)))
			}
			is(t, k.Save([]byte("state")), api.OK)
			for i := range behind {
				n, _ := k.Put([]byte(some(i, 2)))
				want = append(want, record{n, some(i, 2)})
			}
			if got := gathered(k.Behind()); !slices.Equal(got, want) || behind > 0 && got[0].n != int64(ahead+1) {
				t.Errorf("Behind goes over %v, not %v", got, want)
			}
		}
	}
}

func TestBehindAsItIsCalled(t *testing.T) { // P9.2: not as it is gone over
	k, m := long(t, 5, 12)
	all, want := k.Behind(), m.behind()
	k.Put([]byte("more"))
	if got := gathered(all); !slices.Equal(got, want) {
		t.Fatalf("behind a Put: %v, not %v", got, want)
	}
	is(t, k.Save([]byte("new")), api.OK)
	k.Put([]byte("still more"))
	for _, name := range k.Disk().Names() {
		k.Disk().Remove(name)
	}
	for range 2 {
		if got := gathered(all); !slices.Equal(got, want) {
			t.Fatalf("behind a Save: %v, not %v", got, want)
		}
	}
	k, _ = begun(t, 64)
	none := k.Behind()
	k.Put([]byte("more"))
	if got := gathered(none); got != nil {
		t.Errorf("Behind of nothing goes over %v", got)
	}
}

func TestBehindIsLeft(t *testing.T) { // P9.2: at any time, and gone over again, also within itself
	k, m := long(t, 5, 12)
	want := m.behind()
	all := k.Behind()
	for stop := range want {
		var got []record
		for n, b := range all {
			got = append(got, record{n, string(b)})
			if len(got) > stop {
				break
			}
		}
		if !slices.Equal(got, want[:stop+1]) {
			t.Fatalf("left behind %d: %v", stop, got)
		}
	}
	i := 0
	for n := range all {
		if want[i].n != n || !slices.Equal(gathered(all), want) {
			t.Fatal("gone over within itself it is another")
		}
		k.Put(nil)
		k.Save(nil)
		i++
	}
	if i != len(want) {
		t.Errorf("it ends behind %d", i)
	}
}

func TestAnswersAreNew(t *testing.T) { // P9.2
	k, m := long(t, 5, 12)
	spoil := func(b []byte) {
		b = b[:cap(b)]
		for i := range b {
			b[i] = '!'
		}
	}
	all := k.Behind()
	for range 2 {
		for _, b := range all {
			spoil(b)
		}
		state, _ := k.State()
		other, _ := k.State()
		spoil(state)
		if string(other) != m.state || !slices.Equal(gathered(all), m.behind()) {
			t.Fatal("two answers share memory")
		}
		stands(t, k, m)
	}
}

func TestWhatIsHandedIn(t *testing.T) { // P9.1: is left as it was, and is not kept
	k, m := begun(t, 64)
	for n := range 40 {
		b := append([]byte(some(n, 5)), bytes.Repeat([]byte{0xa5}, 100)...)
		was := bytes.Clone(b)
		k.Put(b[:n])
		m.log.Put(was[:n])
		is(t, k.Save(b[:n]), m.save(string(was[:n])))
		if !bytes.Equal(b, was) {
			t.Errorf("%d bytes that were handed in are changed", n)
		}
		clear(b)
		stands(t, k, m)
	}
	name := []byte("k")
	k, e := snap.Open(k.Disk(), unsafe.String(&name[0], 1), 64)
	name[0] = 'j'
	is(t, e, api.OK)
	stands(t, k, m)
	is(t, puts(t, k, m, some(60, 1)), api.OK)
	is(t, saves(t, k, m, "state"), api.OK)
	is(t, saves(t, k.Copy(), m.apart(), "another"), api.OK)
}

func TestCopy(t *testing.T) { // P9.3: goes on apart
	for ahead := range 8 {
		k, m := long(t, ahead, 6)
		c, told := k.Copy(), m.apart()
		if c == k || c.Disk() == k.Disk() {
			t.Fatal("a copy is not apart")
		}
		stands(t, c, told)
		for i := range 8 {
			is(t, puts(t, k, m, some(i, 1)), api.OK)
			stands(t, c, told)
			is(t, saves(t, c, told, some(2*i, 2)), api.OK)
			stands(t, k, m)
			is(t, puts(t, c, told, some(3*i, 2)), api.OK)
			stands(t, k, m)
			is(t, saves(t, k, m, some(i, 3)), api.OK)
			stands(t, c, told)
		}
		keeps(t, c, told)
		keeps(t, k, m)
	}
	k, _ := long(t, 3, 3)
	dies(t, k.Disk())
	c := k.Copy()
	if _, e := c.Put(nil); e != api.ErrDead || !c.Disk().Dead() {
		t.Errorf("Put of a copy on a dead disk = %v", e)
	}
	stops, told := long(t, 3, 3)
	done(t, stops.Disk(), step{call: "Stop", n: 3})
	done(t, told.d, step{call: "Stop", n: 3})
	is(t, saves(t, stops.Copy(), told.apart(), "state"), api.ErrDead)
	stands(t, stops, told)
}

func TestNone(t *testing.T) { // P9.1 to P9.3
	for _, k := range nones() {
		for _, b := range [][]byte{nil, []byte("hi"), make([]byte, 2049), make([]byte, 1<<20+1)} {
			if n, e := k.Put(b); n != 0 || e != api.ErrNil {
				t.Errorf("Put = %d, %v", n, e)
			}
			is(t, k.Save(b), api.ErrNil)
		}
		is(t, k.Sync(), api.ErrNil)
		if state, n := k.State(); state != nil || n != 0 {
			t.Errorf("State = %q, %d", state, n)
		}
		all := k.Behind()
		if all == nil || gathered(all) != nil {
			t.Error("Behind of none goes over something")
		}
		if next, sure := k.Ends(); next != 0 || sure != 0 || k.Disk() != nil || k.Copy() != nil {
			t.Error("of none there is something")
		}
		keep := reflect.ValueOf(k)
		for i := range keep.NumMethod() { // none panics, also of those that a keep has by what it is made of
			call := keep.Method(i)
			var given []reflect.Value
			for j := range call.Type().NumIn() {
				given = append(given, reflect.Zero(call.Type().In(j)))
			}
			call.Call(given)
		}
	}
}

func TestKeepsOnOneDisk(t *testing.T) { // P9.1: what is done to one is not done to the other
	d := room(t, 1<<16)
	names := []string{"k", "kk", "s", "tmp", "k0"}
	var all, alone []*snap.Keep
	for _, name := range names {
		k, e := snap.Open(d, name, 64)
		is(t, e, api.OK)
		other, e := snap.Open(room(t, 1<<16), name, 64)
		is(t, e, api.OK)
		all, alone = append(all, k), append(alone, other)
	}
	for i := range 40 {
		for at := range names {
			for _, k := range []*snap.Keep{all[at], alone[at]} {
				if n, e := k.Put([]byte(some(i, uint32(at)))); n != int64(i+1) || e != api.OK {
					t.Fatalf("Put = %d, %v", n, e)
				}
				if i%(7+at) == 6 {
					is(t, k.Save([]byte(names[at])), api.OK)
				}
			}
		}
	}
	for range 2 {
		files := map[string]string{}
		for at, k := range alone {
			for name, b := range contents(k.Disk()) {
				files[name] = b
			}
			state, n := all[at].State()
			if want, number := k.State(); string(state) != names[at] || !bytes.Equal(state, want) || n != number || !slices.Equal(gathered(all[at].Behind()), gathered(k.Behind())) {
				t.Errorf("%s: State = %q, %d", names[at], state, n)
			}
			snap.Open(k.Disk(), names[at], 64)
		}
		holds(t, d, files)
		for _, name := range names {
			snap.Open(d, name, 64)
		}
	}
}

func TestOpenedAgain(t *testing.T) { // P9.1: on the same disk, also with another Per, also with what is not sure
	for ahead := range 10 {
		for _, per := range []int{64, 65, 1000, 65536} {
			k, m := long(t, ahead, 10-ahead)
			_, sure := k.Ends()
			again, told, e := open(t, k.Disk(), "k", per)
			is(t, e, api.OK)
			if state, n := again.State(); string(state) != m.state || n != m.n || !slices.Equal(gathered(again.Behind()), m.behind()) {
				t.Fatalf("State = %q, %d", state, n)
			}
			if next, s := again.Ends(); next != m.next() || s < sure {
				t.Fatalf("Ends = %d %d", next, s)
			}
			was := k.Disk().Copy()
			if _, _, e := open(t, k.Disk(), "k", 64); e != api.OK || !disk.Same(was, k.Disk()) {
				t.Fatalf("Open = %v", e)
			}
			for i := range 4 {
				is(t, puts(t, again, told, some(20*i, 4)), api.OK)
				is(t, saves(t, again, told, some(i, 4)), api.OK)
			}
		}
	}
}

func TestFilesThatOthersChange(t *testing.T) { // P9.1 to P9.3: of these nothing is promised, but that each call ends
	for _, x := range []step{{call: "Remove"}, {call: "Cut"}, {call: "Cut", n: 3}, {call: "Cut", n: 9}, {call: "Append", bytes: "\x05more"}, {call: "Append", bytes: frameTold("more")}} {
		k, _ := long(t, 9, 9)
		for _, name := range k.Disk().Names() {
			c := k.Copy()
			x.name = name
			done(t, c.Disk(), x)
			for range 3 {
				c.State()
				c.Ends()
				gathered(c.Behind())
				c.Sync()
				snap.Open(c.Copy().Disk(), "k", 64)
				c.Put([]byte("x"))
				c.Save([]byte("state"))
			}
		}
	}
}

func TestEachCut(t *testing.T) { // P9.4: whatever is kept of what is not sure
	for ahead := range 8 {
		for behind := range 5 {
			k, m := long(t, ahead, behind)
			for pick := range 90 {
				left, told := keeps(t, k, m, pick, pick, pick)
				is(t, puts(t, left, told, "goes on"), api.OK)
				is(t, saves(t, left, told, "so does the state"), api.OK)
				is(t, puts(t, left, told, some(60, 1)), api.OK)
				keeps(t, left, told, 3, 5, 7)
			}
		}
	}
}

func TestEachByte(t *testing.T) { // P9.1: that is another one, or is cut off, makes the keep rotten where it is the state's
	files := map[string]string{nameOf(3): fileOf(3, "a", "b"), nameOf(5): fileOf(5, "c", "d", ""), nameOfState(4): stateOf(4, "the state"), "k.tmp": stateOf(6, "draft"), nameOfState(2): stateOf(2, "elder")}
	for name, b := range files {
		for i := range len(b) {
			for _, other := range []string{"", "\x00", "\x04", "\x05", "\x7f", "\x80", "\xff", string([]byte{b[i] ^ 1}), string([]byte{b[i] + 1})} {
				if other == b[i:i+1] {
					continue
				}
				d := with(t, files)
				done(t, d, step{call: "Cut", name: name, n: i}, step{call: "Append", name: name, bytes: other + b[i+1:]})
				k, _, e := open(t, d, "k", 64)
				switch name {
				case nameOfState(4):
					is(t, e, api.ErrSpoilt)
				case nameOf(3):
					is(t, e, api.ErrRotten)
				default:
					is(t, e, api.OK)
					if state, n := k.State(); string(state) != "the state" || n != 4 {
						t.Errorf("State = %q, %d", state, n)
					}
				}
			}
		}
	}
}

// deed is something that is done to a keep.
type deed struct{ call, bytes string }

func does(t *testing.T, k *snap.Keep, m *keepTold, x deed) api.Errno {
	t.Helper()
	switch x.call {
	case "Put":
		return puts(t, k, m, x.bytes)
	case "Sync":
		return syncs(t, k, m)
	default:
		return saves(t, k, m, x.bytes)
	}
}

// anyDeed is one, right or wrong.
func anyDeed(mix *rand.Rand) deed {
	switch mix.Intn(6) {
	case 0:
		return deed{call: "Sync"}
	case 1:
		sizes := []int{0, 1, mix.Intn(20), mix.Intn(100), mix.Intn(400), 1000}
		return deed{"Save", some(sizes[mix.Intn(len(sizes))], mix.Uint32())}
	}
	sizes := []int{0, 1, 2, mix.Intn(20), mix.Intn(20), mix.Intn(70), mix.Intn(70), mix.Intn(300), 2047 + mix.Intn(3)}
	return deed{"Put", some(sizes[mix.Intn(len(sizes))], mix.Uint32())}
}

func anyPicks(mix *rand.Rand) []int {
	picks := make([]int, mix.Intn(12))
	for i := range picks {
		picks[i] = mix.Intn(400) - 200
	}
	return picks
}

func TestEachStep(t *testing.T) { // P9.1, P9.4: a disk that stops at each step of a walk, and at each step of what mends it
	for seed := range 5 {
		mix := rand.New(rand.NewSource(int64(seed)))
		var walk []deed
		k, m := begun(t, 64)
		for range 25 {
			walk = append(walk, anyDeed(mix))
			does(t, k, m, walk[len(walk)-1])
		}
		for stop := 0; ; stop++ {
			k, m := begun(t, 64)
			done(t, k.Disk(), step{call: "Stop", n: stop})
			done(t, m.d, step{call: "Stop", n: stop})
			for _, x := range walk {
				does(t, k, m, x)
			}
			for range 3 {
				picks := anyPicks(mix)
				left, _ := keeps(t, k, m, picks...)
				stopsAsItMends(t, m, left, picks...)
			}
			if !m.d.Dead() {
				break
			}
		}
	}
}

// stopsAsItMends asks that a crash, at whatever step as a keep is opened behind a crash, changes nothing of what is left.
func stopsAsItMends(t *testing.T, m *keepTold, left *snap.Keep, picks ...int) {
	t.Helper()
	want, wantN := left.State()
	records := gathered(left.Behind())
	for stop := 0; ; stop++ {
		c, _ := m.d.Crash(picks...)
		done(t, c, step{call: "Stop", n: stop})
		k, e := snap.Open(c, m.name, m.per)
		if e == api.OK {
			return
		}
		if k != nil || e != api.ErrDead {
			t.Fatalf("Open as the disk stops = %v", e)
		}
		c, _ = c.Crash(picks...)
		k, e = snap.Open(c, m.name, m.per)
		is(t, e, api.OK)
		if state, n := k.State(); !bytes.Equal(state, want) || n != wantN || !slices.Equal(gathered(k.Behind()), records) {
			t.Fatal("behind another crash it is another")
		}
	}
}

func TestWalks(t *testing.T) { // P9.1 to P9.4: whatever is done, in whatever order
	told := map[api.Errno]int{}
	pers := []int{64, 64, 65, 100, 300, 5000}
	rooms := []int{100, 400, 3000, 10000, 1 << 20}
	for seed := range 150 {
		mix := rand.New(rand.NewSource(int64(seed)))
		k, m, _ := open(t, room(t, rooms[mix.Intn(len(rooms))]), "k", pers[mix.Intn(len(pers))])
		for range 50 {
			switch mix.Intn(14) {
			case 0:
				if !m.d.Dead() {
					n := mix.Intn(10)
					done(t, k.Disk(), step{call: "Stop", n: n})
					done(t, m.d, step{call: "Stop", n: n})
				}
			case 1:
				k, m = keeps(t, k, m, anyPicks(mix)...)
			case 2:
				was, other := k, m.apart()
				k = k.Copy()
				does(t, k, m, anyDeed(mix))
				stands(t, was, other)
			case 3:
				if !m.d.Dead() {
					done(t, k.Disk(), step{call: "Stop", n: countless})
					k, m, _ = open(t, k.Disk(), m.name, m.per)
				}
			default:
				told[does(t, k, m, anyDeed(mix))]++
			}
			if m.d.Dead() && mix.Intn(3) == 0 {
				k, m = keeps(t, k, m, anyPicks(mix)...)
			}
		}
	}
	for _, e := range []api.Errno{api.OK, api.ErrLong, api.ErrRoom, api.ErrDead} {
		if told[e] < 50 {
			t.Errorf("%v came %d times", e, told[e])
		}
	}
}

func TestLongLife(t *testing.T) { // P9.1, P9.2: what is dropped makes room, so a keep that saves goes on
	d := room(t, 4000)
	k, e := snap.Open(d, "k", 300)
	is(t, e, api.OK)
	for i := int64(1); i <= 3000; i++ {
		if n, e := k.Put([]byte(strconv.FormatInt(i, 10))); n != i || e != api.OK {
			t.Fatalf("Put = %d, %v", n, e)
		}
		if i%50 == 0 {
			is(t, k.Save([]byte(strconv.FormatInt(i, 10))), api.OK)
		}
		if i%97 == 0 {
			d, _ = d.Crash(-1, -1, -1, -1, -1, -1, -1, -1, -1, -1)
			k, e = snap.Open(d, "k", 300)
			is(t, e, api.OK)
		}
		at := i/50*50 + 1
		if state, n := k.State(); n != at || i >= 50 && string(state) != strconv.FormatInt(at-1, 10) {
			t.Fatalf("State = %q, %d", state, n)
		}
		for n, b := range k.Behind() {
			if n != at || string(b) != strconv.FormatInt(at, 10) {
				t.Fatalf("Behind goes over %d, %q, not %d", n, b, at)
			}
			at++
		}
		if at != i+1 {
			t.Fatalf("Behind ends at %d, not %d", at, i+1)
		}
	}
}

func FuzzOpen(f *testing.F) { // P9.1, P9.2, P9.4: whatever stands in the files: what the document tells
	f.Add("k", 64, int64(1), []byte(fileOf(1, "a", "b")), int64(2), []byte(stateOf(2, "one")), int64(1), []byte("elder"), 5)
	f.Add("k", 64, int64(1), []byte(fileOf(1, "a")), int64(2), []byte(stateOf(2, "")), int64(3), []byte{}, -1)
	f.Add("k", 65536, int64(1)<<31-1, []byte(fileOf(1<<31-1)), int64(1)<<31-1, []byte(stateOf(1<<31-1, "x")), int64(0), []byte("\x05"), 0)
	f.Add("", 63, int64(-1), []byte(nil), int64(9999999999), []byte{0x80}, int64(0), []byte(nil), 1)
	f.Add("abc12345", 100, int64(9999999999), []byte(fileOf(9999999999, "a")), int64(9999999999), []byte(stateOf(9999999999, "")), int64(9999999998), []byte(nil), 3)
	f.Fuzz(func(t *testing.T, name string, per int, one int64, a []byte, two int64, b []byte, three int64, c []byte, pick int) {
		d := room(t, 1<<22)
		if !regexp.MustCompile(`^[a-z0-9]{1,8}$`).MatchString(name) || per < 64 || per > 65536 {
			if k, e := snap.Open(d, name, per); k != nil || e != api.ErrArg {
				t.Fatalf("Open = %v, %v", k, e)
			}
			return
		}
		d.Append(fmt.Sprintf("%s.%010d", name, one), a)
		d.Append(fmt.Sprintf("%s.s%010d", name, two), b)
		d.Append(fmt.Sprintf("%s.s%010d", name, three), c)
		d.Append(name+".tmp", c)
		left, _ := d.Crash(pick, -pick, pick/2, pick/3)
		for _, d := range []*disk.Disk{d, left} {
			done(t, d, step{call: "Stop", n: countless})
			k, m, e := open(t, d, name, per)
			if e != api.OK {
				continue
			}
			for _, x := range []deed{{"Put", string(a)}, {"Sync", ""}, {"Put", string(b)}, {"Save", string(c)}, {"Put", ""}, {"Save", string(a)}, {"Put", name}} {
				if does(t, k, m, x) == api.OK && x.call == "Save" {
					keeps(t, k, m, pick, pick)
				}
			}
			stands(t, k.Copy(), m)
		}
	})
}
