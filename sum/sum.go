// Package sum is layer 1: see shared/doc/01-sum.md.
package sum

import (
	"bytes"
	"iter"

	"antiphon/api"
)

const (
	one       uint32 = 1 << 31 // as a polynomial: its highest bit is the factor of 1
	modulus   uint32 = 0xedb88320
	mostPower int64  = 1 << 40
	sumBytes         = 4
)

// nibbles has, for each four bits, what they leave in a word that is four times by x: so a byte takes two steps, not eight.
var nibbles = [16]uint32{
	0x00000000, 0x1db71064, 0x3b6e20c8, 0x26d930ac,
	0x76dc4190, 0x6b6b51f4, 0x4db26158, 0x5005713c,
	0xedb88320, 0xf00f9344, 0xd6d6a3e8, 0xcb61b38c,
	0x9b64c2b0, 0x86d3d2d4, 0xa00ae278, 0xbdbdf21c,
}

// underWay is a sum that more bytes may go into.
type underWay struct{ word uint32 }

// sealing is bytes, and the sum that is to stand behind them.
type sealing struct {
	underWay
	body []byte
}

// Sum: P1.1.
func Sum(parts ...[]byte) uint32 {
	var u underWay
	u.take(parts...)
	return u.word
}

// More: P1.1.
func More(sum uint32, b []byte) uint32 {
	u := underWay{word: sum}
	u.take(b)
	return u.word
}

// Mul: P1.2.
func Mul(a, b uint32) uint32 {
	product := uint32(0)
each:
	for above, is := range bits(a) {
		switch {
		case a<<above == 0: // this bit and all below it are 0
			break each
		case is:
			product ^= b
		}
		b = byX(b)
	}
	return product
}

// Power: P1.2.
func Power(n int64) (uint32, api.Errno) {
	if !mayBePower(n) {
		return 0, api.ErrArg
	}
	return power(uint64(n)), api.OK
}

// Join: P1.2.
func Join(a, b uint32, n int64) (uint32, api.Errno) {
	if !mayBePower(n) {
		return 0, api.ErrArg
	}
	return Mul(a, power(8*uint64(n))) ^ b, api.OK
}

// Seal: P1.3.
func Seal(b []byte) []byte {
	sealed := make([]byte, 0, len(b)+sumBytes)
	sealed = append(sealed, b...)
	return append(sealed, seal(b).tail()...)
}

// Open: P1.3.
func Open(b []byte) ([]byte, api.Errno) {
	if len(b) < sumBytes {
		return nil, api.ErrSum
	}
	body, tail := b[:len(b)-sumBytes], b[len(b)-sumBytes:]
	if !bytes.Equal(seal(body).tail(), tail) {
		return nil, api.ErrSum
	}
	return bytes.Clone(body), api.OK
}

// take lets parts go into the sum. A sum of no bytes is 0, which is all ones before the last turn: so a new sum goes on from 0 just as any other from what it is.
func (u *underWay) take(parts ...[]byte) {
	for _, deed := range deeds(parts) {
		u.word = deed(u.word)
	}
}

// deeds lists what is done to a sum for the parts that go into it: its last turn is taken back, and done anew behind them.
func deeds(parts [][]byte) []func(uint32) uint32 {
	turn := func(w uint32) uint32 { return ^w }
	list := make([]func(uint32) uint32, 0, len(parts)+2)
	list = append(list, turn)
	for _, part := range parts {
		list = append(list, func(w uint32) uint32 { return through(w, part) })
	}
	return append(list, turn)
}

// through is the word when each byte has been xored in and gone by x eight times.
func through(w uint32, b []byte) uint32 {
	for _, c := range b {
		w ^= uint32(c)
		w = w>>4 ^ nibbles[w&15]
		w = w>>4 ^ nibbles[w&15]
	}
	return w
}

func seal(body []byte) sealing {
	s := sealing{body: body}
	s.take(s.body)
	return s
}

func (s sealing) tail() []byte {
	return lay(nil, s.word)
}

// lay puts all bytes of a word behind b, the lowest ahead.
func lay[W ~uint16 | ~uint32 | ~uint64](b []byte, w W) []byte {
	for left := ^W(0); left != 0; left >>= 8 {
		b = append(b, byte(w))
		w >>= 8
	}
	return b
}

// bits goes over the bits of a word, the highest ahead, each with how many stand above it: in a polynomial its power.
func bits[W uint32 | uint64](w W) iter.Seq2[int, bool] {
	return func(yield func(int, bool) bool) {
		above := 0
		for mask := ^(^W(0) >> 1); mask != 0; mask >>= 1 {
			if !yield(above, w&mask != 0) {
				return
			}
			above++
		}
	}
}

func byX(w uint32) uint32 {
	if w&1 == 1 {
		return w>>1 ^ modulus
	}
	return w >> 1
}

func mayBePower(n int64) bool {
	return n >= 0 && n <= mostPower
}

// power is asked for more than mostPower, too: Join's numbers are of bytes, eight bits each.
func power(n uint64) uint32 {
	p := one
	for _, is := range bits(n) {
		p = Mul(p, p)
		if is {
			p = byX(p)
		}
	}
	return p
}
