package roll_test

import (
	"fmt"
	"math"
	"slices"
	"testing"

	"raingauge/api"
	"raingauge/chunk"
	"raingauge/roll"
)

// The heads of the chapter's functions.
var (
	_ func(int64, int64) int64                               = roll.Floor
	_ func([]api.Sample, int64) ([]api.Bucket, error)        = roll.Up
	_ func([]api.Bucket, int64, int64) ([]api.Bucket, error) = roll.Wider
	_ func([]api.Bucket, []api.Bucket) (both []api.Bucket)   = roll.Merge
)

const (
	most = int64(api.MaxTime)
	low  = math.MinInt64
	high = math.MaxInt64
)

// wrongSpans are not from 1 to MaxTime.
func wrongSpans() []int64 {
	return []int64{low, low + 1, -most - 1, -most, -10, -2, -1, 0, most + 1, most + 2, 2 * most, high - 1, high}
}

// 3.1: Floor, at, just below and just above a multiple, below 0 and at 0.
func TestFloor(t *testing.T) {
	for _, c := range []struct{ t, span, want int64 }{
		{0, 1, 0}, {1, 1, 1}, {-1, 1, -1}, {7, 1, 7}, {-7, 1, -7},
		{0, 2, 0}, {1, 2, 0}, {2, 2, 2}, {3, 2, 2}, {-1, 2, -2}, {-2, 2, -2}, {-3, 2, -4},
		{0, 10, 0}, {1, 10, 0}, {9, 10, 0}, {10, 10, 10}, {11, 10, 10}, {19, 10, 10}, {20, 10, 20}, {21, 10, 20},
		{-1, 10, -10}, {-9, 10, -10}, {-10, 10, -10}, {-11, 10, -20}, {-19, 10, -20}, {-20, 10, -20}, {-21, 10, -30},
		{0, most, 0}, {1, most, 0}, {-1, most, -most}, {most - 1, most, 0}, {most, most, most}, {most + 1, most, most},
		{-most + 1, most, -most}, {-most, most, -most}, {-most - 1, most, -2 * most},
		{2 * most, most, 2 * most}, {2*most - 1, most, most}, {-2 * most, most, -2 * most}, {-2*most + 1, most, -2 * most},
		{2 * most, 1, 2 * most}, {-2 * most, 1, -2 * most}, {2*most - 1, 1, 2*most - 1}, {-2*most + 1, 1, -2*most + 1},
		{2 * most, 2, 2 * most}, {-2 * most, 2, -2 * most}, {2*most - 1, 2, 2*most - 2}, {-2*most + 1, 2, -2 * most},
		{-2 * most, 3, -2*most - 1}, {2 * most, 3, 2*most - 2}, {2 * most, most - 1, 2*most - 2}, {-2 * most, most - 1, -3*most + 3},
		{-most, most - 1, -2*most + 2}, {most, most - 1, most - 1},
	} {
		if got := roll.Floor(c.t, c.span); got != c.want {
			t.Errorf("Floor(%d, %d) is %d, not %d", c.t, c.span, got, c.want)
		}
	}
}

// checkFloor: a multiple, not above the time, and the next one is above it.
func checkFloor(t *testing.T, time, span int64) {
	t.Helper()
	got := roll.Floor(time, span)
	if got != floor(time, span) || got%span != 0 || got > time || got+span <= time {
		t.Errorf("Floor(%d, %d) is %d, not %d", time, span, got, floor(time, span))
	}
}

// 3.1: Floor of all small times and spans, and of any from -2^41 to 2^41.
func TestFloorAny(t *testing.T) {
	for span := int64(1); span <= 30; span++ {
		for time := int64(-100); time <= 100; time++ {
			checkFloor(t, time, span)
		}
	}
	r := drawn(1)
	for range 20000 {
		span := 1 + r.Int64N(1<<r.IntN(41))
		checkFloor(t, r.Int64N(4*most+1)-2*most, span)
		times := r.Int64N(2*(2*most/span)+1) - 2*most/span
		for step := int64(-1); step <= 1; step++ {
			checkFloor(t, min(max(times*span+step, -2*most), 2*most), span)
		}
	}
}

// 3.1: Up: ErrArg, unless span is from 1 to MaxTime, whatever the samples.
func TestUpSpan(t *testing.T) {
	for _, l := range [][]api.Sample{nil, {}, at(0, 5), at(-1, 5, 1, 2, 9, 4)} {
		for _, span := range wrongSpans() {
			out, err := roll.Up(l, span)
			wantErrArg(t, fmt.Sprint("Up of ", l, " by ", span), out, err)
		}
		for _, span := range []int64{1, 2, 10, most - 1, most} {
			out, err := roll.Up(l, span)
			wantBuckets(t, fmt.Sprint("Up of ", l, " by ", span), out, err, together(singly(l), span))
		}
	}
}

// 3.1: Up of none, of one, of several in one span and in several, below 0, of sums that wrap, of the least and the greatest value.
func TestUp(t *testing.T) {
	for _, c := range []struct {
		l    []api.Sample
		span int64
		want []api.Bucket
	}{
		{nil, 10, nil},
		{[]api.Sample{}, 1, nil},
		{at(0, 0), 10, from(0, 1, 0, 0, 0)},
		{at(7, -3), 10, from(0, 1, -3, -3, -3)},
		{at(-7, 3), 10, from(-10, 1, 3, 3, 3)},
		{at(-1, 5, 1, 2, 9, 4), 10, from(-10, 1, 5, 5, 5, 0, 2, 6, 2, 4)},
		{at(0, 4, 1, 2, 9, 3), 10, from(0, 3, 9, 2, 4)},
		{at(0, 2, 1, 4, 9, 3), 10, from(0, 3, 9, 2, 4)},
		{at(0, 3, 1, 4, 9, 2), 10, from(0, 3, 9, 2, 4)},
		{at(9, 1, 10, 2, 11, 3, 40, 4), 10, from(0, 1, 1, 1, 1, 10, 2, 5, 2, 3, 40, 1, 4, 4, 4)},
		{at(-21, 1, -20, 2, -11, 3, -10, 4, -1, 5, 0, 6), 10, from(-30, 1, 1, 1, 1, -20, 2, 5, 2, 3, -10, 2, 9, 4, 5, 0, 1, 6, 6, 6)},
		{at(-1, -4, 0, -5, 1, -6), 1, from(-1, 1, -4, -4, -4, 0, 1, -5, -5, -5, 1, 1, -6, -6, -6)},
		{at(-1, -4, 0, -5, 1, -6), 2, from(-2, 1, -4, -4, -4, 0, 2, -11, -6, -5)},
		{at(1, high, 2, 1), 10, from(0, 2, low, 1, high)},
		{at(1, low, 2, -1), 10, from(0, 2, high, low, -1)},
		{at(1, low, 2, low), 10, from(0, 2, 0, low, low)},
		{at(1, high, 2, high), 10, from(0, 2, -2, high, high)},
		{at(1, low, 2, high, 3, 7), 10, from(0, 3, 6, low, high)},
		{at(1, high, 2, low), 10, from(0, 2, -1, low, high)},
		{at(1, low), 10, from(0, 1, low, low, low)},
		{at(1, high), 10, from(0, 1, high, high, high)},
		{at(-most, 1, -1, 2, 0, 3, most-1, 4, most, 5), most, from(-most, 2, 3, 1, 2, 0, 2, 7, 3, 4, most, 1, 5, 5, 5)},
		{at(-most, 1, most, 2), most - 1, from(-2*most+2, 1, 1, 1, 1, most-1, 1, 2, 2, 2)},
	} {
		kept := slices.Clone(c.l)
		out, err := roll.Up(c.l, c.span)
		wantBuckets(t, fmt.Sprint("Up of ", c.l, " by ", c.span), out, err, c.want)
		if !slices.Equal(c.l, kept) {
			t.Errorf("handed in %v, now %v", kept, c.l)
		}
	}
}

// 3.1: Up, of samples that are drawn, and of as many as may be.
func TestUpAny(t *testing.T) {
	r := drawn(2)
	for range 3000 {
		size := 1 + r.IntN(40)
		l, span := anySamples(r, size), 1+r.Int64N(1<<r.IntN(size+1))
		out, err := roll.Up(l, span)
		wantBuckets(t, fmt.Sprint("Up of ", l, " by ", span), out, err, together(singly(l), span))
	}
	var many []api.Sample
	for i := range int64(api.MaxSamples) {
		many = append(many, api.Sample{Time: 3*i - 3000, Value: i})
	}
	for _, span := range []int64{1, 100, most} {
		out, err := roll.Up(many, span)
		wantBuckets(t, fmt.Sprint("Up of many by ", span), out, err, together(singly(many), span))
	}
}

// 3.1: Wider: ErrArg, unless span and wide are from 1 to MaxTime, and wide a multiple of span, whatever the buckets.
func TestWiderSpans(t *testing.T) {
	for _, l := range [][]api.Bucket{nil, {}, from(0, 1, 5, 5, 5), from(-10, 1, 5, 5, 5, 0, 2, 6, 2, 4)} {
		wrong := func(span, wide int64) {
			out, err := roll.Wider(l, span, wide)
			wantErrArg(t, fmt.Sprint("Wider of ", l, " from ", span, " to ", wide), out, err)
		}
		for _, span := range wrongSpans() {
			for _, right := range []int64{1, 2, 10, most} {
				wrong(span, right)
				wrong(right, span)
			}
			for _, wide := range wrongSpans() {
				wrong(span, wide)
			}
		}
		for _, c := range [][2]int64{{2, 1}, {2, 3}, {10, 1}, {10, 2}, {10, 5}, {10, 9}, {10, 11}, {10, 15}, {3, 10}, {3, most}, {most, 1}, {most, most / 2}, {most, most - 1}, {most - 1, most}, {most/2 + 1, most}} {
			wrong(c[0], c[1])
		}
		for _, c := range [][2]int64{{1, 1}, {1, 2}, {1, most}, {2, 2}, {10, 10}, {10, 20}, {10, 30}, {10, most - most%10}, {2, most}, {most / 2, most}, {most, most}} {
			out, err := roll.Wider(l, c[0], c[1])
			wantBuckets(t, fmt.Sprint("Wider of ", l, " from ", c[0], " to ", c[1]), out, err, together(l, c[1]))
		}
	}
}

// 3.1: Wider of no bucket, of one, of several that stay apart and that come together, with sums that wrap.
func TestWider(t *testing.T) {
	apart := from(-20, 2, 5, 1, 4, 0, 1, 3, 3, 3, 10, 3, 9, -1, 8)
	for _, c := range []struct {
		l          []api.Bucket
		span, wide int64
		want       []api.Bucket
	}{
		{nil, 10, 20, nil},
		{[]api.Bucket{}, 10, 10, nil},
		{from(10, 3, 9, -1, 8), 10, 20, from(0, 3, 9, -1, 8)},
		{from(-10, 3, 9, -1, 8), 10, 20, from(-20, 3, 9, -1, 8)},
		{apart, 10, 10, apart},
		{apart, 5, 10, apart},
		{apart, 10, 20, from(-20, 2, 5, 1, 4, 0, 4, 12, -1, 8)},
		{apart, 10, 30, from(-30, 2, 5, 1, 4, 0, 4, 12, -1, 8)},
		{apart, 10, most - most%10, from(-most+most%10, 2, 5, 1, 4, 0, 4, 12, -1, 8)},
		{from(0, 1, 3, 3, 3, 2, 2, 4, 1, 3, 4, 5, 25, 4, 6), 2, 6, from(0, 8, 32, 1, 6)},
		{from(0, 5, 25, 4, 6, 2, 2, 4, 1, 3, 4, 1, 3, 3, 3), 2, 6, from(0, 8, 32, 1, 6)},
		{from(0, 1, high, high, high, 1, 1, 1, 1, 1), 1, 2, from(0, 2, low, 1, high)},
		{from(0, 1, low, low, low, 1, 1, -1, -1, -1), 1, 2, from(0, 2, high, low, -1)},
		{from(0, 2, low, low, low, 1, 2, low, low, high), 1, 2, from(0, 4, 0, low, high)},
		{from(0, 2, high, low, high, 1, 2, high, 0, 0, 2, 7, 1, 1, 1), 1, 2, from(0, 4, -2, low, high, 2, 7, 1, 1, 1)},
		{from(-most, 1, 1, 1, 1, -1, 1, 2, 2, 2, 0, 1, 3, 3, 3, most, 1, 4, 4, 4), 1, most, from(-most, 2, 3, 1, 2, 0, 1, 3, 3, 3, most, 1, 4, 4, 4)},
	} {
		kept := slices.Clone(c.l)
		out, err := roll.Wider(c.l, c.span, c.wide)
		wantBuckets(t, fmt.Sprint("Wider of ", kept, " from ", c.span, " to ", c.wide), out, err, c.want)
		wantBuckets(t, "handed in", c.l, nil, kept)
	}
}

// 3.1: Wider, of buckets that are drawn.
func TestWiderAny(t *testing.T) {
	r := drawn(3)
	for range 3000 {
		span := 1 + r.Int64N(1<<r.IntN(30))
		l, wide := anyBuckets(r, span), span*(1+r.Int64N(8))
		out, err := roll.Wider(l, span, wide)
		wantBuckets(t, fmt.Sprint("Wider of ", l, " from ", span, " to ", wide), out, err, together(l, wide))
	}
}

// Rolled up twice is rolled up once.
func TestTwiceIsOnce(t *testing.T) {
	r := drawn(4)
	for range 3000 {
		size := 1 + r.IntN(40)
		l, span := anySamples(r, size), 1+r.Int64N(1<<r.IntN(size+1))
		wide := span * (1 + r.Int64N(min(6, most/span)))
		narrow, err := roll.Up(l, span)
		if err != nil {
			t.Fatal(err)
		}
		twice, err := roll.Wider(narrow, span, wide)
		if err != nil {
			t.Fatal(err)
		}
		once, err := roll.Up(l, wide)
		wantBuckets(t, fmt.Sprint("of ", l, " by ", span, " and ", wide), twice, err, once)
	}
}

// What two lists of samples come to, put together, is what their samples put together come to.
func TestMergedIsTogether(t *testing.T) {
	r := drawn(5)
	for range 3000 {
		size := 1 + r.IntN(40)
		a, span := anySamples(r, size), 1+r.Int64N(1<<r.IntN(size+1))
		b := slices.DeleteFunc(anySamples(r, size), func(s api.Sample) bool {
			return slices.ContainsFunc(a, func(other api.Sample) bool { return other.Time == s.Time })
		})
		first, err := roll.Up(a, span)
		if err != nil {
			t.Fatal(err)
		}
		second, err := roll.Up(b, span)
		if err != nil {
			t.Fatal(err)
		}
		both, err := roll.Up(chunk.Merge(a, b), span)
		wantBuckets(t, fmt.Sprint("of ", a, " and ", b, " by ", span), roll.Merge(first, second), err, both)
	}
}

// 3.1: Merge, where either is empty, where all Starts are apart, and where a Start is in both.
func TestMerge(t *testing.T) {
	one, two, three, four := from(-10, 1, 5, 5, 5), from(0, 2, 6, 2, 4), from(10, 3, -9, -7, 1), from(20, 1, 0, 0, 0)
	join := func(l ...[]api.Bucket) []api.Bucket { return slices.Concat(l...) }
	for _, c := range []struct{ a, b, want []api.Bucket }{
		{nil, nil, nil},
		{[]api.Bucket{}, nil, nil},
		{nil, []api.Bucket{}, nil},
		{one, nil, one},
		{nil, one, one},
		{join(one, three), []api.Bucket{}, join(one, three)},
		{[]api.Bucket{}, join(one, three), join(one, three)},
		{one, two, join(one, two)},
		{two, one, join(one, two)},
		{join(one, two), join(three, four), join(one, two, three, four)},
		{join(three, four), join(one, two), join(one, two, three, four)},
		{join(one, three), join(two, four), join(one, two, three, four)},
		{join(two, four), join(one, three), join(one, two, three, four)},
		{join(one, four), join(two, three), join(one, two, three, four)},
		{join(two, three), join(one, four), join(one, two, three, four)},
		{from(0, 2, 6, 2, 4), from(0, 3, -9, -7, 1), from(0, 5, -3, -7, 4)},
		{from(0, 3, -9, -7, 1), from(0, 2, 6, 2, 4), from(0, 5, -3, -7, 4)},
		{from(0, 2, 6, 2, 4), from(0, 2, 6, 2, 4), from(0, 4, 12, 2, 4)},
		{from(0, 9, 20, 1, 9), from(0, 2, 6, 2, 4), from(0, 11, 26, 1, 9)},
		{from(0, 1, high, high, high), from(0, 1, 1, 1, 1), from(0, 2, low, 1, high)},
		{from(0, 1, low, low, low), from(0, 1, -1, -1, -1), from(0, 2, high, low, -1)},
		{join(one, two, three), two, join(one, from(0, 4, 12, 2, 4), three)},
		{two, join(one, two, three), join(one, from(0, 4, 12, 2, 4), three)},
		{join(one, two), join(one, two), join(from(-10, 2, 10, 5, 5), from(0, 4, 12, 2, 4))},
		{join(one, two), join(two, three), join(one, from(0, 4, 12, 2, 4), three)},
		{join(two, three), join(one, three, four), join(one, two, from(10, 6, -18, -7, 1), four)},
		{from(-2*most, 1, 1, 1, 1, 2*most, 1, 2, 2, 2), from(-2*most, 1, 3, 3, 3), from(-2*most, 2, 4, 1, 3, 2*most, 1, 2, 2, 2)},
	} {
		a, b := slices.Clone(c.a), slices.Clone(c.b)
		wantBuckets(t, fmt.Sprint("Merge of ", c.a, " and ", c.b), roll.Merge(a, b), nil, c.want)
		wantBuckets(t, "handed in first", a, nil, c.a)
		wantBuckets(t, "handed in second", b, nil, c.b)
	}
}

// 3.1: Merge, of buckets that are drawn.
func TestMergeAny(t *testing.T) {
	r := drawn(6)
	for range 3000 {
		span := 1 + r.Int64N(1<<r.IntN(30))
		a, b := anyBuckets(r, span), anyBuckets(r, span)
		wantBuckets(t, fmt.Sprint("Merge of ", a, " and ", b), roll.Merge(a, b), nil, together(slices.Concat(a, b), 1))
	}
}

// P4: nothing that is handed in, nor what stands behind its length, is written into; what comes out is fresh.
func TestFresh(t *testing.T) {
	samples := at(1, 1, 2, 2, 13, 3, 77, 77)
	first := from(0, 1, 1, 1, 1, 10, 2, 2, 2, 2, 20, 3, 3, 3, 3, 70, 7, 7, 7, 7, 80, 8, 8, 8, 8)
	second := from(10, 5, 5, 5, 5, 30, 6, 6, 6, 6, 90, 9, 9, 9, 9)
	keptSamples, keptFirst, keptSecond := slices.Clone(samples), slices.Clone(first), slices.Clone(second)
	l, a, b := samples[:3], first[:3], second[:2]
	for i, call := range []func() []api.Bucket{
		func() []api.Bucket { out, _ := roll.Up(l, 10); return out },
		func() []api.Bucket { out, _ := roll.Up(l, 1); return out },
		func() []api.Bucket { out, _ := roll.Wider(a, 10, 10); return out },
		func() []api.Bucket { out, _ := roll.Wider(a, 10, 20); return out },
		func() []api.Bucket { out, _ := roll.Wider(a, 10, 1000); return out },
		func() []api.Bucket { return roll.Merge(a, b) },
		func() []api.Bucket { return roll.Merge(b, a) },
		func() []api.Bucket { return roll.Merge(a, nil) },
		func() []api.Bucket { return roll.Merge(nil, a) },
		func() []api.Bucket { return roll.Merge(b[:0], a) },
		func() []api.Bucket { return roll.Merge(a, b[:0]) },
		func() []api.Bucket { return roll.Merge(a, a) },
	} {
		out := call()
		kept := slices.Clone(out)
		for j := range out[:cap(out)] {
			out[:cap(out)][j] = api.Bucket{Start: -9, Count: -9}
		}
		if !slices.Equal(samples, keptSamples) {
			t.Errorf("call %d: samples handed in: %v", i, samples)
		}
		wantBuckets(t, fmt.Sprint("handed in first, call ", i), first, nil, keptFirst)
		wantBuckets(t, fmt.Sprint("handed in second, call ", i), second, nil, keptSecond)
		wantBuckets(t, fmt.Sprint("call ", i, " again"), call(), nil, kept)
	}
}

// P1: of spans, samples and buckets that may not be nothing is promised but errors, but no call panics, and each ends.
func TestWhatMayNotBeEnds(t *testing.T) {
	odd := []int64{low, low + 1, -2*most - 1, -1, 0, 1, 3, 2*most + 1, high - 1, high}
	var samples []api.Sample
	var buckets []api.Bucket
	for _, n := range odd {
		samples = append(samples, at(n, n, -n, n, 5, 5, 5, 5)...)
		buckets = append(buckets, from(n, n, n, n, n, -n, n, n, -n, n, 5, 5, 5, 5, 5)...)
	}
	for _, span := range append(odd, wrongSpans()...) {
		if _, err := roll.Up(samples, span); (err == nil) != (1 <= span && span <= most) {
			t.Errorf("Up by %d: %v", span, err)
		}
		for _, time := range odd {
			roll.Floor(time, span)
			roll.Wider(buckets, time, span)
		}
	}
	for n := range buckets {
		if got := len(roll.Merge(buckets[:n], buckets[n:])); got > len(buckets) {
			t.Errorf("%d buckets of %d", got, len(buckets))
		}
	}
}
