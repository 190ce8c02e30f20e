package bits_test

import (
	"fmt"
	"math"
	"testing"

	"raingauge/api"
	"raingauge/bits"
)

// The heads of the chapter's functions.
var (
	_ func(*bits.Writer, bool)                = (*bits.Writer).Bit
	_ func(*bits.Writer, uint64, int)         = (*bits.Writer).Bits
	_ func(*bits.Writer) int                  = (*bits.Writer).Len
	_ func(*bits.Writer) string               = (*bits.Writer).Bytes
	_ func(string) *bits.Reader               = bits.From
	_ func(*bits.Reader) int                  = (*bits.Reader).Left
	_ func(*bits.Reader, int) (uint64, error) = (*bits.Reader).Bits
	_ func(int64) uint64                      = bits.Zig
	_ func(uint64) int64                      = bits.Zag
	_ func(*bits.Writer, int64)               = bits.Put
	_ func(*bits.Reader) (int64, error)       = bits.Get
)

// 1.1: a Writer's zero value has no bits.
func TestWriterAtFirst(t *testing.T) {
	var w bits.Writer
	wantBits(t, "zero value", &w, "")
	if w.Bytes() != "" {
		t.Errorf("Bytes %q, not empty", w.Bytes())
	}
}

// 1.1: Bit adds a bit; Len counts bits; Bytes has eight a byte, the greatest first, the last one filled up with 0.
func TestBit(t *testing.T) {
	var w bits.Writer
	text := ""
	for i, c := range "1011001110001111000011111" {
		w.Bit(c == '1')
		text += string(c)
		wantBits(t, fmt.Sprint("bit ", i), &w, text)
	}
	if w.Len() != 25 || w.Bytes() != "\xb3\x8f\x0f\x80" {
		t.Errorf("Len %d, Bytes %q", w.Len(), w.Bytes())
	}
}

// 1.1: bits that don't fill the last byte are the greatest ones of it.
func TestBytesAreFilledUp(t *testing.T) {
	want := []string{"", "\x80", "\xc0", "\xe0", "\xf0", "\xf8", "\xfc", "\xfe", "\xff", "\xff\x80"}
	for n, s := range want {
		var w bits.Writer
		for range n {
			w.Bit(true)
		}
		if w.Len() != n || w.Bytes() != s {
			t.Errorf("%d bits: Len %d, Bytes %q, not %q", n, w.Len(), w.Bytes(), s)
		}
	}
}

// 1.1: noughts count, too, though the bytes don't show them.
func TestNoughtsCount(t *testing.T) {
	for n := range 20 {
		var w bits.Writer
		for range n {
			w.Bit(false)
		}
		if w.Len() != n || w.Bytes() != "\x00\x00\x00"[:(n+7)/8] {
			t.Errorf("%d noughts: Len %d, Bytes %q", n, w.Len(), w.Bytes())
		}
	}
}

// 1.1: Bits adds the last k bits, the greatest first; k below 0 is 0, above 64 is 64.
func TestWriterBits(t *testing.T) {
	const u = 0x8123456789abcdef
	for _, c := range []struct{ k, added int }{
		{math.MinInt, 0}, {-65, 0}, {-64, 0}, {-1, 0}, {0, 0}, {1, 1}, {2, 2}, {7, 7}, {8, 8}, {9, 9}, {32, 32},
		{62, 62}, {63, 63}, {64, 64}, {65, 64}, {66, 64}, {72, 64}, {128, 64}, {1 << 32, 64}, {math.MaxInt, 64},
	} {
		var w bits.Writer
		w.Bits(u, c.k)
		wantBits(t, fmt.Sprint("k ", c.k), &w, word(u, c.added))
	}
	var w bits.Writer
	w.Bits(u, 65)
	if w.Len() != 64 || w.Bytes() != "\x81\x23\x45\x67\x89\xab\xcd\xef" {
		t.Errorf("Len %d, Bytes %q", w.Len(), w.Bytes())
	}
}

// 1.1: what stands ahead of the last k bits is left out, wherever they come to stand.
func TestWriterBitsAtEachPlace(t *testing.T) {
	for ahead := range 17 {
		for k := range 65 {
			for _, u := range []uint64{0, 1, 0x5a5a5a5a5a5a5a5a, 0x123456789abcdef, math.MaxUint64} {
				var w bits.Writer
				w.Bits(0, ahead)
				w.Bits(u, k)
				w.Bit(true)
				wantBits(t, fmt.Sprint(ahead, " ahead, ", k, " of ", u), &w, word(0, ahead)+word(u, k)+"1")
			}
		}
	}
}

// 1.1, P4: Len and Bytes change nothing, what was told stays, and Writers are apart.
func TestBytesStay(t *testing.T) {
	var w, other bits.Writer
	w.Bits(5, 3)
	first := w.Bytes()
	if w.Bytes() != first || w.Len() != 3 {
		t.Errorf("asked twice: %q, %q, Len %d", first, w.Bytes(), w.Len())
	}
	other.Bits(0, 11)
	w.Bits(0x1ff, 9)
	if first != "\xa0" {
		t.Errorf("told bytes became %q", first)
	}
	wantBits(t, "writer", &w, "101111111111")
	wantBits(t, "other", &other, "00000000000")
}

// 1.1: From reads the bits of a text, the greatest of a byte first; they are left no more then.
func TestReader(t *testing.T) {
	r := bits.From("\xb3\x8f\x01")
	for _, c := range []struct {
		k    int
		u    uint64
		left int
	}{{0, 0, 24}, {1, 1, 23}, {2, 1, 21}, {5, 0x13, 16}, {3, 4, 13}, {12, 0x780, 1}, {0, 0, 1}, {1, 1, 0}, {0, 0, 0}} {
		u, err := r.Bits(c.k)
		if u != c.u || err != nil || r.Left() != c.left {
			t.Errorf("Bits(%d): %d, %v, Left %d; not %d, Left %d", c.k, u, err, r.Left(), c.u, c.left)
		}
	}
	u, err := r.Bits(1)
	wantErrno(t, "behind the last bit", err, api.ErrForm)
	if u != 0 || r.Left() != 0 {
		t.Errorf("behind the last bit: %d, Left %d", u, r.Left())
	}
}

// 1.1: an empty text has no bits; none of them may be asked for.
func TestReaderOfNothing(t *testing.T) {
	r := bits.From("")
	if r.Left() != 0 {
		t.Errorf("Left %d", r.Left())
	}
	if u, err := r.Bits(0); u != 0 || err != nil {
		t.Errorf("Bits(0): %d, %v", u, err)
	}
	_, err := r.Bits(1)
	wantErrno(t, "Bits(1)", err, api.ErrForm)
}

// 1.1, P2, P3: ErrRange, unless k is from 0 to 64, ahead of ErrForm; nothing is told or read then.
func TestReaderBitsRange(t *testing.T) {
	for _, s := range []string{"", "\xff", "0123456789abcdef"} {
		for _, k := range []int{math.MinInt, -1 << 32, -64, -2, -1, 65, 66, 128, 1 << 32, math.MaxInt} {
			r := bits.From(s)
			u, err := r.Bits(k)
			wantErrno(t, fmt.Sprintf("Bits(%d) of %q", k, s), err, api.ErrRange)
			if u != 0 || r.Left() != 8*len(s) {
				t.Errorf("Bits(%d) of %q: %d, Left %d", k, s, u, r.Left())
			}
		}
	}
}

// 1.1, P2, P3: ErrForm, if fewer are left; nothing is told or read then, and the rest can be had.
func TestReaderBitsTooFew(t *testing.T) {
	const s = "\xff\xa5\x3c\xff\xff\x81\x00\xff\x55"
	text := unpacked(s)
	for left := range 65 {
		for k := left + 1; k <= 64; k++ {
			r := readerOf(t, text[:left])
			u, err := r.Bits(k)
			wantErrno(t, fmt.Sprint(k, " of ", left), err, api.ErrForm)
			if u != 0 || r.Left() != left {
				t.Errorf("%d of %d: %d, Left %d", k, left, u, r.Left())
			}
			u, err = r.Bits(left)
			if word(u, left) != text[:left] || err != nil || r.Left() != 0 {
				t.Errorf("%d behind %d: %d, %v, Left %d", left, k, u, err, r.Left())
			}
		}
	}
}

// 1.1: k bits from each place on, to the last bit.
func TestReaderBitsAtEachPlace(t *testing.T) {
	const s = "\x81\xa5\x3c\xff\x00\x7e\xc3\x99\x5a"
	text := unpacked(s)
	for ahead := range 9 {
		for k := range 65 {
			if ahead+k > len(text) {
				continue
			}
			r := bits.From(s)
			if _, err := r.Bits(ahead); err != nil {
				t.Fatal(err)
			}
			u, err := r.Bits(k)
			if word(u, 64) != word(0, 64-k)+text[ahead:ahead+k] || err != nil || r.Left() != len(text)-ahead-k {
				t.Errorf("%d from %d on: %d, %v, Left %d", k, ahead, u, err, r.Left())
			}
		}
	}
}

// P4: two Readers of one text are apart.
func TestReadersAreApart(t *testing.T) {
	a, b := bits.From("\xf0"), bits.From("\xf0")
	if u, err := a.Bits(6); u != 0x3c || err != nil {
		t.Errorf("first: %d, %v", u, err)
	}
	if u, err := b.Bits(8); u != 0xf0 || err != nil || a.Left() != 2 {
		t.Errorf("second: %d, %v, Left of the first %d", u, err, a.Left())
	}
}

// 1.2: Zig and Zag, at the edges.
func TestZig(t *testing.T) {
	for _, c := range []struct {
		n int64
		u uint64
	}{
		{0, 0}, {-1, 1}, {1, 2}, {-2, 3}, {2, 4}, {-3, 5}, {9, 18}, {-8, 15}, {8, 16}, {-1000, 1999}, {1000, 2000},
		{-1 << 31, 1<<32 - 1}, {1 << 31, 1 << 32}, {math.MaxInt64 - 1, math.MaxUint64 - 3}, {math.MinInt64 + 1, math.MaxUint64 - 2},
		{math.MaxInt64, math.MaxUint64 - 1}, {math.MinInt64, math.MaxUint64},
	} {
		if bits.Zig(c.n) != c.u {
			t.Errorf("Zig(%d): %d, not %d", c.n, bits.Zig(c.n), c.u)
		}
		if bits.Zag(c.u) != c.n {
			t.Errorf("Zag(%d): %d, not %d", c.u, bits.Zag(c.u), c.n)
		}
	}
}

// 1.2: Zig is what the sentence counts, and Zag undoes it, from both sides.
func TestZagOfZig(t *testing.T) {
	d := die(1)
	for range 5000 {
		n := d.number()
		if u := bits.Zig(n); zig(n).Uint64() != u || bits.Zag(u) != n {
			t.Errorf("%d: Zig %d, Zag %d", n, u, bits.Zag(u))
		}
		u := d.word()
		if bits.Zig(bits.Zag(u)) != u {
			t.Errorf("%d: Zag %d, Zig %d", u, bits.Zag(u), bits.Zig(bits.Zag(u)))
		}
	}
}

// 1.2, and the document's examples: what numbers are PUT as, at both sides of each size.
func TestPut(t *testing.T) {
	ones := func(k int) string { return word(math.MaxUint64, k) }
	first := func(k int) string { return "1" + word(0, k-1) }
	for _, c := range []struct {
		n    int64
		text string
	}{
		{0, "0"}, {-1, "100001"}, {9, "1100010010"},
		{1, "10" + "0010"}, {7, "10" + "1110"}, {-8, "10" + "1111"},
		{8, "110" + "0010000"}, {-9, "110" + "0010001"}, {63, "110" + "1111110"}, {-64, "110" + ones(7)},
		{64, "1110" + "000010000000"}, {-65, "1110" + "000010000001"}, {-2048, "1110" + ones(12)},
		{2048, "11110" + "0000000" + first(13)}, {-1 << 19, "11110" + ones(20)},
		{1 << 19, "111110" + "00000000000" + first(21)}, {-1 << 31, "111110" + ones(32)},
		{1 << 31, "111111" + word(0, 31) + first(33)}, {-1<<31 - 1, "111111" + word(1<<32+1, 64)},
		{math.MaxInt64, "111111" + ones(63) + "0"}, {math.MinInt64, "111111" + ones(64)},
	} {
		var w bits.Writer
		bits.Put(&w, c.n)
		wantBits(t, fmt.Sprint("Put ", c.n), &w, c.text)
		r := readerOf(t, c.text)
		if n, err := bits.Get(r); n != c.n || err != nil || r.Left() != 0 {
			t.Errorf("Get of %s: %d, %v, Left %d; not %d", c.text, n, err, r.Left(), c.n)
		}
	}
}

// 1.2: likewise of the numbers all around each size.
func TestPutAroundEachSize(t *testing.T) {
	for _, k := range sizes()[:6] {
		for u := uint64(1)<<k - min(uint64(1)<<k, 3); u <= uint64(1)<<k+3; u++ {
			n := bits.Zag(u)
			var w bits.Writer
			w.Bit(true)
			bits.Put(&w, n)
			wantBits(t, fmt.Sprint("Put ", n), &w, "1"+putText(n))
		}
	}
}

// What is put is got, one behind the other; and Get takes no bit more than there were PUT.
func TestPutAndGot(t *testing.T) {
	d := die(2)
	for range 300 {
		var w bits.Writer
		var l []int64
		var ends []int
		text := ""
		for range d.below(30) {
			n := d.number()
			l = append(l, n)
			bits.Put(&w, n)
			text += putText(n)
			ends = append(ends, w.Len())
		}
		wantBits(t, fmt.Sprint("Put ", l), &w, text)
		r := bits.From(w.Bytes())
		for i, want := range l {
			n, err := bits.Get(r)
			if n != want || err != nil || 8*len(w.Bytes())-r.Left() != ends[i] {
				t.Fatalf("%v: %d-th: %d, %v, Left %d", l, i, n, err, r.Left())
			}
		}
	}
}

// 1.2: ErrForm, where bits are cut off, wherever that is.
func TestGetCutOff(t *testing.T) {
	for _, n := range []int64{0, 1, -8, 8, 9, -64, 64, -2048, 2048, -1 << 19, 1 << 19, -1 << 31, 1 << 31, math.MaxInt64, math.MinInt64} {
		text := putText(n)
		for cut := range len(text) {
			got, err := bits.Get(readerOf(t, text[:cut]))
			wantErrno(t, fmt.Sprintf("%d, cut behind %d", n, cut), err, api.ErrForm)
			if got != 0 {
				t.Errorf("%d, cut behind %d: %d", n, cut, got)
			}
		}
	}
	_, err := bits.Get(bits.From(""))
	wantErrno(t, "empty text", err, api.ErrForm)
}

// 1.2: ErrForm, where a number stands in more bits than it is PUT in; in just so many it is one.
func TestGetTooWide(t *testing.T) {
	l := sizes()
	for wide := 1; wide < len(l); wide++ {
		for narrow := range wide {
			for _, u := range []uint64{0, uint64(1) << l[narrow] / 2, 1<<l[narrow] - 1} {
				got, err := bits.Get(readerOf(t, formed(u, wide)+"01"))
				wantErrno(t, fmt.Sprintf("%d in %d", u, l[wide]), err, api.ErrForm)
				if got != 0 {
					t.Errorf("%d in %d: %d", u, l[wide], got)
				}
			}
		}
		least := uint64(1) << l[wide-1]
		n, err := bits.Get(readerOf(t, formed(least, wide)))
		if err != nil || n != bits.Zag(least) {
			t.Errorf("%d in %d: %d, %v", least, l[wide], n, err)
		}
	}
}

// 1.2: of all texts of two bytes, and of many of nine: either it is a number that is PUT, or ErrForm.
func TestGetOfAnything(t *testing.T) {
	for u := range uint64(1 << 16) {
		checkGet(t, packed(word(u, 16)))
	}
	d := die(3)
	for range 20000 {
		s := []byte(packed(word(d.word(), 64) + word(d.word(), 8)))
		s[0] |= byte(0xff << (8 - d.below(7)))
		checkGet(t, string(s))
	}
}

func checkGet(t *testing.T, s string) {
	t.Helper()
	text := unpacked(s)
	r := bits.From(s)
	n, err := bits.Get(r)
	used := len(text) - r.Left()
	if err == nil && (used < 0 || used > len(text) || putText(n) != text[:used]) {
		t.Fatalf("%s: %d, Left %d", text, n, r.Left())
	}
	if err != nil {
		wantErrno(t, text, err, api.ErrForm)
		if n != 0 || r.Left() < 0 || r.Left() > len(text) || startsPut(text) {
			t.Fatalf("%s: %d, %v, Left %d", text, n, err, r.Left())
		}
	}
}

// startsPut says whether the first bits are a number that is PUT.
func startsPut(text string) bool {
	i := 0
	for i < 6 && i < len(text) && text[i] == '1' {
		i++
	}
	k := sizes()[i]
	from := min(i+1, 6)
	if len(text) < from+k {
		return false
	}
	var u uint64
	for _, c := range text[from : from+k] {
		u = 2*u + uint64(c-'0')
	}
	return i == 0 || u>>sizes()[i-1] != 0
}

// 1.1 and 1.2 in any order, held against bits as text.
func TestInAnyOrder(t *testing.T) {
	d := die(4)
	for range 300 {
		var w bits.Writer
		text := ""
		for range d.below(40) {
			switch u, k := d.word(), d.below(80)-8; d.below(3) {
			case 0:
				w.Bit(u%2 == 1)
				text += word(u%2, 1)
			case 1:
				w.Bits(u, k)
				text += word(u, min(max(k, 0), 64))
			case 2:
				bits.Put(&w, int64(u))
				text += putText(int64(u))
			}
		}
		wantBits(t, "writer", &w, text)
		checkReading(t, &d, w.Bytes())
	}
}

func checkReading(t *testing.T, d *die, s string) {
	t.Helper()
	r := bits.From(s)
	left := unpacked(s)
	for range 40 {
		k := d.below(80) - 8
		u, err := r.Bits(k)
		switch {
		case k < 0 || k > 64:
			wantErrno(t, fmt.Sprint("Bits ", k), err, api.ErrRange)
		case k > len(left):
			wantErrno(t, fmt.Sprint("Bits ", k), err, api.ErrForm)
		default:
			if err != nil || word(u, 64) != word(0, 64-k)+left[:k] {
				t.Fatalf("Bits(%d): %d, %v: %s", k, u, err, left)
			}
			left = left[k:]
			u = 0
		}
		if u != 0 || r.Left() != len(left) {
			t.Fatalf("Bits(%d): %d, %v, Left %d, not %d", k, u, err, r.Left(), len(left))
		}
	}
}

// P1: none panics, whatever it is given: no Writer, no Reader, one that From didn't make.
func TestNone(t *testing.T) {
	bits.Put(nil, 5)
	n, err := bits.Get(nil)
	wantErrno(t, "Get of none", err, api.ErrForm)
	if n != 0 {
		t.Errorf("Get of none: %d", n)
	}
	n, err = bits.Get(&bits.Reader{})
	wantErrno(t, "Get of a zero value", err, api.ErrForm)
	if n != 0 {
		t.Errorf("Get of a zero value: %d", n)
	}
	var w *bits.Writer
	w.Bit(true)
	w.Bits(3, 2)
	wantBits(t, "no writer", w, "")
	var r *bits.Reader
	u, err := r.Bits(1)
	wantErrno(t, "no reader", err, api.ErrForm)
	if u != 0 || r.Left() != 0 {
		t.Errorf("no reader: %d, Left %d", u, r.Left())
	}
}

// Limits: many bits take no more steps each than few.
func TestManyBits(t *testing.T) {
	const many = 1 << 19
	var w bits.Writer
	for i := range int64(many) {
		bits.Put(&w, i-many/2)
	}
	r := bits.From(w.Bytes())
	for i := range int64(many) {
		if n, err := bits.Get(r); n != i-many/2 || err != nil {
			t.Fatalf("%d-th: %d, %v", i, n, err)
		}
	}
	if r.Left() >= 8 {
		t.Errorf("Left %d", r.Left())
	}
}
