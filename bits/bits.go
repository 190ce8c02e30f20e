// Package bits: numbers in few bits.
package bits

import (
	"raingauge/api"
)

// most is how many bits are written, or read, at once at the most.
const most = 64

// widths are how many bits a number may take; the last one has room for all.
var widths = [7]int{0, 4, 7, 12, 20, 32, 64}

// Writer writes bits, one behind the other, into bytes, the greatest bit of each first.
type Writer struct {
	bytes []byte
	count int
}

// Reader reads bits.
type Reader struct {
	text string
	read int
}

// Bit writes a bit.
func (w *Writer) Bit(one bool) {
	if one {
		w.Bits(1, 1)
	} else {
		w.Bits(0, 1)
	}
}

// Bits writes the last k bits of a number, the greatest first (k below 0 is 0, above 64 is 64).
func (w *Writer) Bits(u uint64, k int) {
	if w == nil { // Put may be given none, and no call panics
		return
	}
	for left := min(k, most); left > 0; {
		used := w.count % 8
		if used == 0 {
			w.bytes = append(w.bytes, 0)
		}
		n := min(8-used, left)
		left -= n
		w.bytes[len(w.bytes)-1] |= byte(last(u>>left, n) << (8 - used - n))
		w.count += n
	}
}

// Len is how many bits there are.
func (w *Writer) Len() int {
	if w == nil {
		return 0
	}
	return w.count
}

// Bytes are all bits (the last byte is filled up with 0).
func (w *Writer) Bytes() string {
	if w == nil {
		return ""
	}
	return string(w.bytes)
}

// From is a reader of bytes.
func From(s string) *Reader { return &Reader{text: s} }

// Left is how many bits are left.
func (r *Reader) Left() int {
	if r == nil { // Get may be given none, and no call panics
		return 0
	}
	return 8*len(r.text) - r.read
}

// Bits reads k bits (0 to 64). ErrRange: k is not so; ErrForm: there are fewer left (none are read then).
func (r *Reader) Bits(k int) (uint64, error) {
	if k < 0 || k > most {
		return 0, api.ErrRange
	}
	if k > r.Left() {
		return 0, api.ErrForm
	}
	var u uint64
	for left := k; left > 0; {
		used := r.read % 8
		n := min(8-used, left)
		u = u<<n | last(uint64(r.text[r.read/8])>>(8-used-n), n)
		left -= n
		r.read += n
	}
	return u, nil
}

// last are the last k bits of a number.
func last(u uint64, k int) uint64 { return u & (1<<k - 1) }

// Zig is a number without a sign, small if the number is near 0: twice it, or, below 0, one less than twice as much as it is below 0.
func Zig(n int64) uint64 {
	if n < 0 { // ^n is one less than n is below 0, and there is one of the least number, too
		return 2*uint64(^n) + 1
	}
	return 2 * uint64(n)
}

// Zag is the number that Zig makes that of.
func Zag(u uint64) int64 {
	if u%2 == 1 {
		return ^int64(u / 2)
	}
	return int64(u / 2)
}

// fits says whether a number has room in so many bits.
func fits(u uint64, width int) bool { return u>>width == 0 }

// narrowest is the place of the first width that has room for a number.
func narrowest(u uint64) int {
	at := 0
	for !fits(u, widths[at]) {
		at++
	}
	return at
}

// Put writes a number: of 0, 4, 7, 12, 20, 32, 64 bits the first that has room for its Zig is taken; as many 1 as stand ahead of that, a 0 (but of 64), and its Zig in so many bits.
func Put(w *Writer, n int64) {
	u := Zig(n)
	at := narrowest(u)
	for range at {
		w.Bit(true)
	}
	if at < len(widths)-1 { // no width stands behind the last one, from which a 0 would tell it
		w.Bit(false)
	}
	w.Bits(u, widths[at])
}

// Get reads what Put writes. ErrForm: it is none.
func Get(r *Reader) (int64, error) {
	at, err := place(r)
	if err != nil {
		return 0, err
	}
	u, err := r.Bits(widths[at])
	if err != nil {
		return 0, err
	}
	if narrowest(u) != at { // Put takes fewer bits: a number has one form alone
		return 0, api.ErrForm
	}
	return Zag(u), nil
}

// place reads which width a number has: as many 1 as stand ahead of it, and the 0 behind them.
func place(r *Reader) (int, error) {
	at := 0
	for at < len(widths)-1 {
		bit, err := r.Bits(1)
		if err != nil {
			return 0, err
		}
		if bit == 0 {
			break
		}
		at++
	}
	return at, nil
}
