package roll_test

// What chapter 3 says, once more: numbers without a bound, and of each bucket all that falls into it, looked for anew.

import (
	"errors"
	"fmt"
	"math/big"
	"math/rand/v2"
	"slices"
	"testing"

	"raingauge/api"
)

// drawn makes numbers that look drawn, the same each time.
func drawn(seed uint64) *rand.Rand { return rand.New(rand.NewPCG(seed, 2)) }

// at is samples, from a time and a value by turns.
func at(n ...int64) (l []api.Sample) {
	for pair := range slices.Chunk(n, 2) {
		l = append(l, api.Sample{Time: pair[0], Value: pair[1]})
	}
	return l
}

// from is buckets, from Start, Count, Sum, Min and Max by turns.
func from(n ...int64) (l []api.Bucket) {
	for five := range slices.Chunk(n, 5) {
		l = append(l, api.Bucket{Start: five[0], Count: five[1], Sum: five[2], Min: five[3], Max: five[4]})
	}
	return l
}

// anyNumber is a number of any size.
func anyNumber(r *rand.Rand) int64 { return int64(r.Uint64()) >> r.IntN(64) }

// anySamples are samples that are Right, with values of any size; so are steps, up to a size.
func anySamples(r *rand.Rand, size int) []api.Sample {
	var l []api.Sample
	time := r.Int64N(1<<size) - r.Int64N(1<<size)
	for range r.IntN(14) {
		if time > api.MaxTime {
			break
		}
		l = append(l, api.Sample{Time: time, Value: anyNumber(r)})
		time += 1 + r.Int64N(1<<r.IntN(size+1))
	}
	return l
}

// anyBuckets are buckets that begin at multiples of a span, rising, with all else of any size.
func anyBuckets(r *rand.Rand, span int64) []api.Bucket {
	var l []api.Bucket
	start := r.Int64N(20) - 10
	for range r.IntN(10) {
		l = append(l, api.Bucket{Start: start * span, Count: r.Int64N(99), Sum: anyNumber(r), Min: anyNumber(r), Max: anyNumber(r)})
		start += 1 + r.Int64N(4)
	}
	return l
}

// floor goes by a division that rounds down.
func floor(t, span int64) int64 {
	n := new(big.Int).Div(big.NewInt(t), big.NewInt(span))
	return n.Mul(n, big.NewInt(span)).Int64()
}

// wrapped is a number within 64 bits.
func wrapped(n *big.Int) int64 {
	n = new(big.Int).And(n, new(big.Int).SetUint64(1<<64-1))
	return int64(n.Uint64())
}

// together is what buckets come to by their starts, each floored first.
func together(l []api.Bucket, span int64) []api.Bucket {
	var starts []int64
	for _, b := range l {
		starts = append(starts, floor(b.Start, span))
	}
	slices.Sort(starts)
	var out []api.Bucket
	for _, start := range slices.Compact(starts) {
		count, sum := new(big.Int), new(big.Int)
		var least, greatest []int64
		for _, b := range l {
			if floor(b.Start, span) == start {
				count.Add(count, big.NewInt(b.Count))
				sum.Add(sum, big.NewInt(b.Sum))
				least, greatest = append(least, b.Min), append(greatest, b.Max)
			}
		}
		slices.Sort(least)
		slices.Sort(greatest)
		out = append(out, api.Bucket{Start: start, Count: count.Int64(), Sum: wrapped(sum), Min: least[0], Max: greatest[len(greatest)-1]})
	}
	return out
}

// singly is a bucket of each sample.
func singly(l []api.Sample) []api.Bucket {
	var out []api.Bucket
	for _, s := range l {
		out = append(out, from(s.Time, 1, s.Value, s.Value, s.Value)...)
	}
	return out
}

// wantErrArg: it is plainly ErrArg, with nothing beside it.
func wantErrArg(t *testing.T, what string, l []api.Bucket, err error) {
	t.Helper()
	var place *api.At
	if api.Tell(err) != api.ErrArg || errors.As(err, &place) || len(l) > 0 {
		t.Errorf("%s: %v, %v, not plainly ErrArg", what, l, err)
	}
}

// wantBuckets: those, and no error.
func wantBuckets(t *testing.T, what string, got []api.Bucket, err error, want []api.Bucket) {
	t.Helper()
	if err != nil || !slices.Equal(got, want) {
		t.Errorf("%.300s: %s, %v, not %s", what, short(got), err, short(want))
	}
}

// short is the beginning of a list, for a message.
func short(l []api.Bucket) string { return fmt.Sprintf("%.300s", fmt.Sprint(l)) }
