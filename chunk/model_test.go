package chunk_test

// What chapter 2 says, once more: numbers without a bound, so that nothing wraps but what is told to.

import (
	"errors"
	"fmt"
	"math/big"
	"math/rand/v2"
	"slices"
	"sort"
	"testing"

	"raingauge/api"
	"raingauge/bits"
)

// drawn makes numbers that look drawn, the same each time.
func drawn(seed uint64) *rand.Rand { return rand.New(rand.NewPCG(seed, 2)) }

// at is samples, from a time and a value by turns.
func at(n ...int64) []api.Sample {
	var l []api.Sample
	for i := 0; i < len(n); i += 2 {
		l = append(l, api.Sample{Time: n[i], Value: n[i+1]})
	}
	return l
}

// even is samples at even steps, with values that are their numbers.
func even(from, step int64, count int) []api.Sample {
	var l []api.Sample
	for i := range int64(count) {
		l = append(l, api.Sample{Time: from + i*step, Value: i})
	}
	return l
}

// uneven is samples that are Right: steps as often small as great, often the same, with values of all sizes.
func uneven(r *rand.Rand, most int) []api.Sample {
	var l []api.Sample
	time, step := r.Int64N(1<<r.IntN(40))-r.Int64N(1<<r.IntN(40)), int64(1)
	for range r.IntN(most + 1) {
		if time > api.MaxTime {
			break
		}
		l = append(l, api.Sample{Time: time, Value: int64(r.Uint64()) >> r.IntN(64)})
		if r.IntN(3) == 0 {
			step = 1 + r.Int64N(1<<r.IntN(34))
		}
		time += step
	}
	return l
}

// wrapped is a number within 64 bits.
func wrapped(n *big.Int) int64 {
	n = new(big.Int).And(n, new(big.Int).SetUint64(1<<64-1))
	return int64(n.Uint64())
}

// step is how much the time of the i-th one is above the one ahead's, of the first one above 0.
func step(l []api.Sample, i int) *big.Int {
	n := big.NewInt(l[i].Time)
	if i > 0 {
		n.Sub(n, big.NewInt(l[i-1].Time))
	}
	return n
}

// numbers are those that are PUT.
func numbers(l []api.Sample) []int64 {
	put := []int64{int64(len(l))}
	for i, s := range l {
		time, value := step(l, i), big.NewInt(s.Value)
		if i > 0 {
			value.Sub(value, big.NewInt(l[i-1].Value))
		}
		if i > 1 {
			time.Sub(time, step(l, i-1))
		}
		put = append(put, time.Int64(), wrapped(value))
	}
	return put
}

// puts is numbers that are PUT, one behind the other.
func puts(put ...int64) string {
	var w bits.Writer
	for _, n := range put {
		bits.Put(&w, n)
	}
	return w.Bytes()
}

// packed is bits as bytes, the last one filled up with 0; blanks don't count.
func packed(text string) string {
	var w bits.Writer
	for _, c := range text {
		if c != ' ' {
			w.Bit(c == '1')
		}
	}
	return w.Bytes()
}

// readable is what numbers tell, counted without a bound: false, if no samples that are Right are told so.
func readable(put []int64) ([]api.Sample, bool) {
	var l []api.Sample
	time, last, value := new(big.Int), new(big.Int), new(big.Int)
	for i := 1; i+1 < len(put); i += 2 {
		now := big.NewInt(put[i])
		if i > 3 {
			now.Add(now, last)
		}
		time.Add(time, now)
		value.Add(value, big.NewInt(put[i+1]))
		if time.CmpAbs(big.NewInt(api.MaxTime)) > 0 || i > 1 && now.Sign() <= 0 {
			return nil, false
		}
		l = append(l, api.Sample{Time: time.Int64(), Value: wrapped(value)})
		last = now
	}
	return l, true
}

// parsed is the samples of which Write tells just those bytes; false: of none.
func parsed(s string) ([]api.Sample, bool) {
	r := bits.From(s)
	n, err := bits.Get(r)
	if err != nil || n < 0 || n > api.MaxSamples {
		return nil, false
	}
	put := []int64{n}
	for range 2 * n {
		n, err := bits.Get(r)
		if err != nil {
			return nil, false
		}
		put = append(put, n)
	}
	l, ok := readable(put)
	return l, ok && puts(put...) == s
}

// merged goes by the times, and asks the second one first.
func merged(a, b []api.Sample) []api.Sample {
	values := map[int64]int64{}
	for _, s := range slices.Concat(a, b) {
		values[s.Time] = s.Value
	}
	var l []api.Sample
	for time, value := range values {
		l = append(l, api.Sample{Time: time, Value: value})
	}
	sort.Slice(l, func(i, j int) bool { return l[i].Time < l[j].Time })
	return l
}

// wantErrno: it is that Errno, and no At is in it.
func wantErrno(t *testing.T, what string, err error, want api.Errno) {
	t.Helper()
	var place *api.At
	if api.Tell(err) != want || errors.As(err, &place) {
		t.Errorf("%s: error %v, not plainly %v", what, err, want)
	}
}

// wantSamples: those.
func wantSamples(t *testing.T, what string, got, want []api.Sample) {
	t.Helper()
	if !slices.Equal(got, want) {
		t.Errorf("%.200s: %s, not %s", what, short(got), short(want))
	}
}

// short is the beginning of a list, for a message.
func short(l []api.Sample) string { return fmt.Sprintf("%.200s", fmt.Sprint(l)) }
