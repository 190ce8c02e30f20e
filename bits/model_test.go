package bits_test

// What chapter 1 says, once more, over texts of '0' and '1': slow, and plain enough to be held against the document.

import (
	"errors"
	"math/big"
	"strings"
	"testing"

	"raingauge/api"
	"raingauge/bits"
)

// die makes numbers that look drawn, the same each time.
type die uint64

func (d *die) word() uint64 {
	*d = *d*6364136223846793005 + 1442695040888963407
	u := uint64(*d)
	u ^= u >> 29
	u *= 0xbf58476d1ce4e5b9
	return u ^ u>>32
}

func (d *die) below(n int) int { return int(d.word() % uint64(n)) }

// number is as often of few bits as of many.
func (d *die) number() int64 { return int64(d.word()>>d.below(64)) * int64(1-2*d.below(2)) }

// binary is u in k digits, the greatest first, of which those ahead are left out if there are more.
func binary(u *big.Int, k int) string {
	s := strings.Repeat("0", k) + u.Text(2)
	return s[len(s)-k:]
}

func word(u uint64, k int) string { return binary(new(big.Int).SetUint64(u), k) }

// zig counts without a bound, so that nothing can wrap.
func zig(n int64) *big.Int {
	b := big.NewInt(n)
	if b.Sign() >= 0 {
		return b.Add(b, b)
	}
	b.Neg(b)
	b.Add(b, b)
	return b.Sub(b, big.NewInt(1))
}

func sizes() []int { return []int{0, 4, 7, 12, 20, 32, 64} }

// putText is what a number is PUT as.
func putText(n int64) string {
	u := zig(n)
	for i, k := range sizes() {
		if u.BitLen() > k {
			continue
		}
		s := strings.Repeat("1", i)
		if k != 64 {
			s += "0"
		}
		return s + binary(u, k)
	}
	panic("no size has room")
}

// formed is a form that a number of that Zig would have, if it took the i-th size, fitting or not.
func formed(u uint64, i int) string {
	s := strings.Repeat("1", i)
	if i < len(sizes())-1 {
		s += "0"
	}
	return s + word(u, sizes()[i])
}

// packed is bits as bytes, the last one filled up with 0.
func packed(s string) string {
	var l []byte
	for i := 0; i < len(s); i += 8 {
		part := s[i:min(i+8, len(s))]
		part += strings.Repeat("0", 8-len(part))
		var b byte
		for _, c := range part {
			b = 2*b + byte(c-'0')
		}
		l = append(l, b)
	}
	return string(l)
}

// unpacked is bytes as bits.
func unpacked(s string) string {
	var l []string
	for i := range len(s) {
		l = append(l, word(uint64(s[i]), 8))
	}
	return strings.Join(l, "")
}

// readerOf has just those bits left; what fills the first byte up is read already.
func readerOf(t *testing.T, s string) *bits.Reader {
	t.Helper()
	ahead := (8 - len(s)%8) % 8
	r := bits.From(packed(strings.Repeat("1", ahead) + s))
	if _, err := r.Bits(ahead); err != nil {
		t.Fatalf("Bits(%d): %v", ahead, err)
	}
	if r.Left() != len(s) {
		t.Fatalf("Left: %d, not %d", r.Left(), len(s))
	}
	return r
}

// wantErrno: it is that Errno, and no At is in it.
func wantErrno(t *testing.T, what string, err error, want api.Errno) {
	t.Helper()
	if api.Tell(err) != want {
		t.Errorf("%s: error %v, not %v", what, err, want)
	}
	var at *api.At
	if errors.As(err, &at) {
		t.Errorf("%s: an At at %d: none is asked for", what, at.Place)
	}
}

// wantBits: those bits are what a Writer has.
func wantBits(t *testing.T, what string, w *bits.Writer, want string) {
	t.Helper()
	if w.Len() != len(want) {
		t.Errorf("%s: Len %d, not %d", what, w.Len(), len(want))
	}
	if w.Bytes() != packed(want) {
		t.Errorf("%s: Bytes %s, not %s", what, unpacked(w.Bytes()), want)
	}
}
