package chunk_test

import (
	"fmt"
	"math"
	"slices"
	"strings"
	"testing"

	"raingauge/api"
	"raingauge/bits"
	"raingauge/chunk"
)

// The heads of the chapter's functions.
var (
	_ func([]api.Sample) bool                       = chunk.Right
	_ func([]api.Sample) (string, error)            = chunk.Write
	_ func(string) ([]api.Sample, error)            = chunk.Read
	_ func([]api.Sample, int64, int64) []api.Sample = chunk.Between
	_ func([]api.Sample, []api.Sample) []api.Sample = chunk.Merge
)

const most = int64(api.MaxTime)

// verdicts are samples, and whether they are Right.
func verdicts() []struct {
	what  string
	l     []api.Sample
	right bool
} {
	return []struct {
		what  string
		l     []api.Sample
		right bool
	}{
		{"nil", nil, true},
		{"none", []api.Sample{}, true},
		{"one", at(0, 0), true},
		{"two", at(-1, 5, 0, 5), true},
		{"MaxSamples", even(-5, 1, api.MaxSamples), true},
		{"one more", even(-5, 1, api.MaxSamples+1), false},
		{"many more", even(-5, 1, 3*api.MaxSamples), false},
		{"at -MaxTime", at(-most, 1), true},
		{"at MaxTime", at(most, 1), true},
		{"from -MaxTime to MaxTime", at(-most, 1, 0, 1, most, 1), true},
		{"ahead of -MaxTime", at(-most-1, 1), false},
		{"ahead of -MaxTime, and more", at(-most-1, 1, -most, 1, 0, 1), false},
		{"behind MaxTime", at(most+1, 1), false},
		{"behind MaxTime at last", at(0, 1, most, 1, most+1, 1), false},
		{"the least time", at(math.MinInt64, 1), false},
		{"the greatest time", at(math.MaxInt64, 1), false},
		{"the greatest time, and the least", at(math.MaxInt64, 1, math.MinInt64, 1), false},
		{"a time twice", at(3, 1, 3, 1), false},
		{"a time twice at last", at(1, 1, 2, 1, 3, 1, 3, 2), false},
		{"-MaxTime twice", at(-most, 1, -most, 1), false},
		{"MaxTime twice", at(most, 1, most, 1), false},
		{"0 twice", at(0, 1, 0, 2), false},
		{"one that falls", at(3, 1, 2, 1), false},
		{"one that falls below 0", at(-3, 1, -4, 1), false},
		{"one that falls in the middle", at(1, 1, 5, 1, 4, 1, 6, 1), false},
		{"one behind another, not the one ahead", at(1, 1, 5, 1, 2, 1), false},
		{"values of any kind", at(1, math.MinInt64, 2, math.MaxInt64, 3, 0, 4, -1), true},
	}
}

// 2.1: Right: at most MaxSamples, times from -MaxTime to MaxTime, rising, none twice; Write: ErrArg else.
func TestRight(t *testing.T) {
	for _, c := range verdicts() {
		if chunk.Right(c.l) != c.right {
			t.Errorf("%s: Right %v", c.what, !c.right)
		}
		s, err := chunk.Write(c.l)
		if c.right {
			if err != nil || s == "" {
				t.Errorf("%s: Write %q, %v", c.what, s, err)
			}
			continue
		}
		wantErrno(t, c.what, err, api.ErrArg)
		if s != "" {
			t.Errorf("%s: Write %q beside an error", c.what, s)
		}
	}
}

// written are samples, and the bits that Write tells, counted by hand.
func written() []struct {
	l    []api.Sample
	text string
} {
	return []struct {
		l    []api.Sample
		text string
	}{
		{nil, "0"},
		{at(0, 0), "10 0010  0 0"},
		{at(1, 0), "10 0010  10 0010  0"},
		{at(-1, 9), "10 0010  10 0001  110 0010010"},
		{at(5, -1, 6, -1), "10 0100  10 1010 10 0001  10 0010 0"},
		{at(5, 0, 10, 0), "10 0100  10 1010 0  10 1010 0"},
		{at(5, 0, 10, 0, 15, 0), "10 0110  10 1010 0  10 1010 0  0 0"},
		{at(5, 0, 10, 0, 15, 0, 20, 0), "10 1000  10 1010 0  10 1010 0  0 0  0 0"},
		{at(0, 3, 1, 1, 3, 2, 4, 2), "10 1000  0 10 0110  10 0010 10 0011  10 0010 10 0010  10 0001 0"},
		{at(0, math.MaxInt64, 1, math.MinInt64), "10 0100  0 111111" + strings.Repeat("1", 63) + "0  10 0010 10 0010"},
		{at(0, math.MinInt64, 1, math.MaxInt64), "10 0100  0 111111" + strings.Repeat("1", 64) + "  10 0010 10 0001"},
	}
}

// 2.1: of none, one, two, three and more, at even and uneven steps: how many; of each STEP less STEP, and value less value.
func TestWritten(t *testing.T) {
	for _, c := range written() {
		s, err := chunk.Write(c.l)
		if err != nil || s != packed(c.text) {
			t.Errorf("Write of %v: %x, %v, not %x", c.l, s, err, packed(c.text))
		}
		l, err := chunk.Read(packed(c.text))
		if err != nil {
			t.Errorf("Read of %s: %v", c.text, err)
		}
		wantSamples(t, c.text, l, c.l)
	}
}

// edges are samples at the edges of times and values.
func edges() [][]api.Sample {
	const low, high = math.MinInt64, math.MaxInt64
	return [][]api.Sample{
		nil, at(0, 0), at(most, high), at(-most, low), at(-most, low, most, high), at(-most, high, most, low),
		at(-most, 1, -most+1, 2, most, 3), at(-most, 1, most-1, 2, most, 3), at(-most, 0, 0, 0, most, 0),
		at(1, low, 2, high, 3, low, 4, 0, 5, low, 6, -1, 7, high), at(0, 1, 7, 1, 14, 1, 22, 1, 30, 1, 31, 1),
		even(most-1999, 1, 2000), even(-most, 1, 2000), even(-most, most/1000, 2000), even(0, 60, 1999), even(-7, 7, 3),
	}
}

// checkBothWays: Write tells what the sentence does, and Read the samples again.
func checkBothWays(t *testing.T, l []api.Sample) string {
	t.Helper()
	kept := slices.Clone(l)
	s, err := chunk.Write(l)
	if err != nil || s != puts(numbers(l)...) {
		t.Errorf("Write of %s: %.100x, %v", short(l), s, err)
	}
	got, err := chunk.Read(s)
	if err != nil {
		t.Errorf("Read of what Write tells of %s: %v", short(l), err)
	}
	wantSamples(t, "Read of what Write tells", got, kept)
	wantSamples(t, "handed in to Write", l, kept)
	return s
}

// 2.1: what is written is read, with values whose difference wraps, at the edges and within.
func TestWrittenIsRead(t *testing.T) {
	for _, l := range edges() {
		checkBothWays(t, l)
	}
	r := drawn(1)
	for range 2000 {
		checkBothWays(t, uneven(r, 40))
	}
}

// Even steps cost little: two bits a sample, if the value stays, too.
func TestEvenStepsCostLittle(t *testing.T) {
	l := even(1<<38, 1<<20, api.MaxSamples)
	for i := range l {
		l[i].Value = -1 << 60
	}
	s := checkBothWays(t, l)
	var first bits.Writer
	for _, n := range []int64{api.MaxSamples, 1 << 38, -1 << 60, 1 << 20, 0} {
		bits.Put(&first, n)
	}
	if want := (first.Len() + 2*(len(l)-2) + 7) / 8; len(s) != want {
		t.Errorf("%d bytes, not %d", len(s), want)
	}
}

// wantForm: Read tells ErrForm, and nothing else.
func wantForm(t *testing.T, what, s string) {
	t.Helper()
	l, err := chunk.Read(s)
	wantErrno(t, what, err, api.ErrForm)
	if len(l) > 0 {
		t.Errorf("%s: %s beside an error", what, short(l))
	}
}

// 2.1: Read of each beginning of what Write tells, and of it with a byte more: ErrForm.
func TestReadCutOffOrLonger(t *testing.T) {
	r := drawn(2)
	lists := edges()
	for range 200 {
		lists = append(lists, uneven(r, 12))
	}
	for _, l := range lists {
		s, err := chunk.Write(l)
		if err != nil {
			t.Fatal(err)
		}
		for n := range min(len(s), 40) {
			wantForm(t, fmt.Sprintf("%s, cut behind %d", short(l), n), s[:n])
			wantForm(t, fmt.Sprintf("%s, cut ahead of the last %d", short(l), n), s[:len(s)-n-1])
		}
		for _, more := range []string{"\x00", "\x01", "\x80", "\xff", "\x00\x00", s} {
			wantForm(t, fmt.Sprintf("%s, with %q more", short(l), more), s+more)
		}
	}
}

// 2.1: Read with a bit 1 among those that fill up the last byte: ErrForm.
func TestReadFilledUpWithOne(t *testing.T) {
	for _, c := range written() {
		text := strings.ReplaceAll(c.text, " ", "")
		for len(text)%8 != 0 {
			wantForm(t, text+"1", packed(text+"1"))
			text += "0"
		}
		if _, err := chunk.Read(packed(text)); err != nil {
			t.Errorf("%s: %v", text, err)
		}
	}
}

// 2.1: a count below 0, or above MaxSamples, whatever stands behind it: ErrForm.
func TestReadCount(t *testing.T) {
	for _, n := range []int64{math.MinInt64, -2001, -2000, -2, -1, 2001, 2002, 1 << 32, 1<<32 + 1, 1 << 40, math.MaxInt64} {
		wantForm(t, fmt.Sprint("count ", n), puts(n))
		wantForm(t, fmt.Sprint("count ", n, " ahead of one"), puts(n, 1, 1))
	}
	for _, n := range []int64{2, 3, 1999, 2000} { // one at 0 of 0 is told by what fills a byte up, too
		wantForm(t, fmt.Sprint("count ", n, " ahead of none"), puts(n))
	}
	for _, count := range []int{1999, 2000, 2001} {
		put := []int64{int64(count), 0, 0, 1}
		put = append(put, make([]int64, 2*count-3)...)
		l, err := chunk.Read(puts(put...))
		if right := count <= 2000; right != (err == nil) || right != (len(l) == count) {
			t.Errorf("%d samples: %d are read, %v", count, len(l), err)
		}
	}
}

// 2.1: steps that lead out of time, or don't rise, or do so only if they wrap: ErrForm; one less, they are read.
func TestReadSteps(t *testing.T) {
	for _, put := range [][]int64{
		{1, most + 1, 0}, {1, -most - 1, 0}, {1, math.MaxInt64, 0}, {1, math.MinInt64, 0},
		{2, most, 0, 1, 0}, {2, -most - 1, 0, 1, 0}, {2, -most, 0, 2*most + 1, 0}, {2, -most, 0, math.MaxInt64, 0},
		{2, 5, 0, 0, 0}, {2, 5, 0, -1, 0}, {2, 5, 0, -5, 0}, {2, 5, 0, math.MinInt64, 0}, {2, 0, 0, 0, 0},
		{3, 5, 0, 4, 0, -4, 0}, {3, 5, 0, 4, 0, -5, 0}, {3, 5, 0, 4, 0, math.MinInt64, 0},
		{3, most - 9, 0, 5, 0, 0, 0}, {3, most - 4, 0, 5, 0, -2, 0}, {3, -most, 0, most, 0, 1, 0},
		{4, 0, 0, 3, 0, -1, 0, -2, 0}, {4, 0, 0, math.MaxInt64, 0, math.MaxInt64, 0, 5, 0},
		{3, 0, 0, math.MaxInt64, 0, 3, 0}, {3, 0, 0, math.MinInt64, 0, 1, 0}, {3, math.MaxInt64, 0, 1, 0, math.MaxInt64, 0},
		{4, 0, 0, math.MinInt64, 0, 1, 0, math.MinInt64, 0}, {3, math.MinInt64, 0, math.MinInt64, 0, math.MinInt64 + 1, 0},
	} {
		wantForm(t, fmt.Sprint("numbers ", put), puts(put...))
	}
	for _, put := range [][]int64{
		{1, most, 0}, {1, -most, 0}, {2, most - 1, 0, 1, 0}, {2, -most, 0, 2 * most, 0}, {2, 5, 0, 1, 0},
		{3, 5, 0, 4, 0, -3, 0}, {3, most - 10, 0, 5, 0, 0, 0}, {3, -most, 0, most, 0, 0, 0}, {4, 0, 0, 3, 0, -1, 0, -1, 0},
	} {
		want, ok := readable(put)
		l, err := chunk.Read(puts(put...))
		if err != nil || !ok {
			t.Errorf("numbers %v: %v, model %v", put, err, ok)
		}
		wantSamples(t, fmt.Sprint("numbers ", put), l, want)
	}
}

// 2.1: a number in more bits than it is PUT in: ErrForm, wherever it stands.
func TestReadTooWide(t *testing.T) {
	for _, text := range []string{
		"10 0000", "110 0000000", "111111" + strings.Repeat("0", 64), "110 0000010  0 0",
		"10 0010  10 0000  0", "10 0010  0 10 0000", "10 0010  110 0000010  0", "10 0010  0 110 0001111",
		"10 0110  0 0  10 0010 0  10 0000 0", "10 0110  0 0  10 0010 0  0 1110 000000000111",
		"10 0100  0 0  11110 00000000000000000010 0", "10 0100  0 0  10 0010 111110" + strings.Repeat("0", 32),
	} {
		wantForm(t, text, packed(text))
	}
}

// checkRead: Read tells just what the model does.
func checkRead(t *testing.T, s string) {
	t.Helper()
	want, ok := parsed(s)
	if !ok {
		wantForm(t, fmt.Sprintf("%x", s), s)
		return
	}
	l, err := chunk.Read(s)
	if err != nil {
		t.Errorf("%x: %v", s, err)
	}
	wantSamples(t, fmt.Sprintf("%x", s), l, want)
	if again, err := chunk.Write(l); again != s || err != nil {
		t.Errorf("%x: Write tells %x, %v", s, again, err)
	}
}

// 2.1: of all texts of at most two bytes: either Write tells just that, or ErrForm.
func TestReadOfAnythingShort(t *testing.T) {
	checkRead(t, "")
	for u := range 1 << 8 {
		checkRead(t, string([]byte{byte(u)}))
	}
	for u := range 1 << 16 {
		checkRead(t, string([]byte{byte(u >> 8), byte(u)}))
	}
}

// 2.1: likewise of what Write tells with a bit turned over, and of bytes that are drawn.
func TestReadOfAnythingSpoilt(t *testing.T) {
	r := drawn(3)
	for range 5000 {
		s, err := chunk.Write(uneven(r, 6))
		if err != nil {
			t.Fatal(err)
		}
		b := []byte(s)
		for range 1 + r.IntN(2) {
			b[r.IntN(len(b))] ^= 1 << r.IntN(8)
		}
		checkRead(t, string(b))
		for i := range b {
			b[i] = byte(r.Uint32())
		}
		checkRead(t, string(b))
	}
}

// 2.1: likewise of numbers that are drawn near the edges of times and steps, and of numbers of any size.
func TestReadOfAnyNumbers(t *testing.T) {
	r := drawn(4)
	near := []int64{0, 1, -1, most, -most, 2 * most, -2 * most, math.MaxInt64, math.MinInt64}
	for range 20000 {
		count := r.IntN(5)
		put := []int64{int64(count)}
		for range 2 * count {
			n := near[r.IntN(len(near))] + r.Int64N(5) - 2
			if r.IntN(3) == 0 {
				n = r.Int64N(20) - 5
			}
			put = append(put, n)
		}
		checkRead(t, puts(put...))
	}
}

// 2.2: Between, with both ends met, with from above to, with all and none between.
func TestBetween(t *testing.T) {
	l := at(-5, 1, -1, 2, 0, 3, 4, 4, 9, 5)
	for _, c := range []struct {
		from, to int64
		want     []api.Sample
	}{
		{-1, 4, l[1:4]}, {-1, 3, l[1:3]}, {0, 4, l[2:4]}, {-2, 5, l[1:4]}, {-5, 9, l}, {-4, 8, l[1:4]},
		{math.MinInt64, math.MaxInt64, l}, {-most, most, l}, {math.MinInt64, -5, l[:1]}, {9, math.MaxInt64, l[4:]},
		{0, 0, l[2:3]}, {-5, -5, l[:1]}, {9, 9, l[4:]}, {math.MinInt64, 0, l[:3]}, {0, math.MaxInt64, l[2:]},
		{1, 3, nil}, {3, 3, nil}, {10, 20, nil}, {-9, -6, nil}, {math.MinInt64, -6, nil}, {10, math.MaxInt64, nil},
		{4, -1, nil}, {0, -1, nil}, {9, -5, nil}, {math.MaxInt64, math.MinInt64, nil}, {1, 0, nil},
		{math.MinInt64, math.MinInt64, nil}, {math.MaxInt64, math.MaxInt64, nil},
	} {
		wantSamples(t, fmt.Sprint("from ", c.from, " to ", c.to), chunk.Between(l, c.from, c.to), c.want)
		wantSamples(t, "of none", chunk.Between(nil, c.from, c.to), nil)
		wantSamples(t, "of an empty list", chunk.Between([]api.Sample{}, c.from, c.to), nil)
	}
	wantSamples(t, "handed in", l, at(-5, 1, -1, 2, 0, 3, 4, 4, 9, 5))
	edge := at(-most, 1, most, 2)
	wantSamples(t, "from -MaxTime", chunk.Between(edge, -most, most-1), edge[:1])
	wantSamples(t, "to MaxTime", chunk.Between(edge, -most+1, most), edge[1:])
}

// 2.2: Between, of samples that are drawn, from and to any time.
func TestBetweenAny(t *testing.T) {
	r := drawn(5)
	for range 2000 {
		l := even(r.Int64N(20)-10, 1+r.Int64N(4), r.IntN(12))
		from, to := r.Int64N(60)-20, r.Int64N(60)-20
		want := slices.DeleteFunc(slices.Clone(l), func(s api.Sample) bool { return s.Time < from || s.Time > to })
		wantSamples(t, fmt.Sprint(l, " from ", from, " to ", to), chunk.Between(l, from, to), want)
	}
}

// 2.2: Merge, where either is empty, where all are apart, and where a time is in both.
func TestMerge(t *testing.T) {
	for _, c := range []struct{ a, b, want []api.Sample }{
		{nil, nil, nil},
		{[]api.Sample{}, nil, nil},
		{at(1, 1), nil, at(1, 1)},
		{nil, at(1, 1), at(1, 1)},
		{at(1, 1, 4, 2), []api.Sample{}, at(1, 1, 4, 2)},
		{[]api.Sample{}, at(1, 1, 4, 2), at(1, 1, 4, 2)},
		{at(1, 1, 2, 2), at(3, 3, 4, 4), at(1, 1, 2, 2, 3, 3, 4, 4)},
		{at(3, 3, 4, 4), at(1, 1, 2, 2), at(1, 1, 2, 2, 3, 3, 4, 4)},
		{at(1, 1, 3, 3), at(2, 2, 4, 4), at(1, 1, 2, 2, 3, 3, 4, 4)},
		{at(2, 2, 4, 4), at(1, 1, 3, 3), at(1, 1, 2, 2, 3, 3, 4, 4)},
		{at(1, 1, 9, 9), at(4, 4, 5, 5), at(1, 1, 4, 4, 5, 5, 9, 9)},
		{at(1, 1), at(1, 2), at(1, 2)},
		{at(1, 2), at(1, 1), at(1, 1)},
		{at(1, 5), at(1, 5), at(1, 5)},
		{at(1, 1, 2, 2, 3, 3), at(2, 0), at(1, 1, 2, 0, 3, 3)},
		{at(2, 0), at(1, 1, 2, 2, 3, 3), at(1, 1, 2, 2, 3, 3)},
		{at(1, 1, 2, 2), at(1, 7, 2, 8), at(1, 7, 2, 8)},
		{at(0, 1, 5, 1), at(-3, 2, 5, 2), at(-3, 2, 0, 1, 5, 2)},
		{at(0, 1, 5, 1, 6, 1), at(0, 2, 7, 2), at(0, 2, 5, 1, 6, 1, 7, 2)},
		{at(-most, 1, most, 1), at(-most, 2, 0, 2, most, 2), at(-most, 2, 0, 2, most, 2)},
	} {
		a, b := slices.Clone(c.a), slices.Clone(c.b)
		wantSamples(t, fmt.Sprint(a, " and ", b), chunk.Merge(a, b), c.want)
		wantSamples(t, "handed in first", a, c.a)
		wantSamples(t, "handed in second", b, c.b)
	}
}

// 2.2: Merge, of samples that are drawn; more than MaxSamples in all may come out.
func TestMergeAny(t *testing.T) {
	r := drawn(6)
	for range 2000 {
		a := even(r.Int64N(20)-10, 1+r.Int64N(4), r.IntN(12))
		b := even(r.Int64N(20)-10, 1+r.Int64N(4), r.IntN(12))
		for i := range b {
			b[i].Value += 100
		}
		wantSamples(t, fmt.Sprint(a, " and ", b), chunk.Merge(a, b), merged(a, b))
	}
	a, b := even(0, 2, api.MaxSamples), even(1, 2, api.MaxSamples)
	wantSamples(t, "many", chunk.Merge(a, b), merged(a, b))
	wantSamples(t, "oneself", chunk.Merge(a, a), a)
}

// behind is a list with room behind its length, and what stands there.
func behind(l []api.Sample) (list, room []api.Sample) {
	room = append(slices.Clone(l), at(77, 77, 78, 78, 79, 79)...)
	return room[:len(l)], room
}

// P4: nothing that is handed in, nor what stands behind its length, is written into; what comes out is fresh.
func TestFresh(t *testing.T) {
	first, second := at(1, 1, 2, 2, 3, 3), at(2, 5, 4, 4)
	a, roomA := behind(first)
	b, roomB := behind(second)
	calls := []func() []api.Sample{
		func() []api.Sample { return chunk.Between(a, 1, 3) },
		func() []api.Sample { return chunk.Between(a, 2, 2) },
		func() []api.Sample { return chunk.Merge(a, b) },
		func() []api.Sample { return chunk.Merge(a, nil) },
		func() []api.Sample { return chunk.Merge(nil, a) },
		func() []api.Sample { return chunk.Merge(b[:0], a) },
		func() []api.Sample { return chunk.Merge(a, a) },
	}
	for i, call := range calls {
		out := call()
		kept := slices.Clone(out)
		for j := range out[:cap(out)] {
			out[:cap(out)][j] = api.Sample{Time: -9, Value: -9}
		}
		wantSamples(t, fmt.Sprint("handed in first, call ", i), roomA, append(slices.Clone(first), at(77, 77, 78, 78, 79, 79)...))
		wantSamples(t, fmt.Sprint("handed in second, call ", i), roomB, append(slices.Clone(second), at(77, 77, 78, 78, 79, 79)...))
		wantSamples(t, fmt.Sprint("call ", i, " again"), call(), kept)
	}
}

// P4: what Read tells is the caller's, each time anew, and what Write told stays.
func TestReadIsFresh(t *testing.T) {
	l := at(1, 1, 2, 2, 3, 3)
	s, err := chunk.Write(l)
	if err != nil {
		t.Fatal(err)
	}
	one, _ := chunk.Read(s)
	one[0] = api.Sample{Time: 99, Value: 99}
	two, err := chunk.Read(s)
	if err != nil {
		t.Error(err)
	}
	wantSamples(t, "read again", two, at(1, 1, 2, 2, 3, 3))
	told := strings.Clone(s)
	l[0] = api.Sample{Time: -99, Value: 99}
	if again, err := chunk.Write(l); err != nil || again == told || s != told {
		t.Errorf("written again: %x, %v; first %x, now %x", again, err, told, s)
	}
}

// P1: samples that are not Right are promised nothing, but no call panics, and each ends.
func TestNotRightEnds(t *testing.T) {
	for _, c := range verdicts() {
		for _, d := range verdicts() {
			if n := len(chunk.Merge(c.l, d.l)); n > len(c.l)+len(d.l) {
				t.Errorf("%s and %s: %d", c.what, d.what, n)
			}
		}
		if n := len(chunk.Between(c.l, math.MinInt64, math.MaxInt64)); n > len(c.l) {
			t.Errorf("%s: %d", c.what, n)
		}
	}
}
