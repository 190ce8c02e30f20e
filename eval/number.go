package eval

import (
	"slices"

	"raingauge/api"
	"raingauge/label"
)

// adder adds points to a result, one behind the other.
func (r *result) adder() func(l []api.Label, value int64) {
	return func(l []api.Label, value int64) {
		r.points = append(r.points, api.Point{Labels: l, Value: value})
	}
}

// fold is what values (there is one at least) come to: a series' over a span, or points' that are put together.
func fold(code int, values []int64) int64 {
	first, last := values[0], values[len(values)-1]
	switch code {
	case api.Pick:
		return last
	case api.Delta:
		return last - first
	case api.Sum, api.Total:
		return sum(values)
	case api.Min, api.Least:
		return slices.Min(values)
	case api.Max, api.Most:
		return slices.Max(values)
	}
	return int64(len(values))
}

func sum(values []int64) (out int64) {
	for _, v := range values {
		out += v
	}
	return out
}

// sampleValues are what fold asks of a series.
func sampleValues(l []api.Sample) []int64 {
	out := make([]int64, len(l))
	for i, one := range l {
		out[i] = one.Value
	}
	return out
}

// pointValues are what fold asks of points.
func pointValues(l []api.Point) []int64 {
	out := make([]int64, len(l))
	for i, one := range l {
		out[i] = one.Value
	}
	return out
}

// together are the points of the same labels, of some names alone, put together.
func together(code int, points []api.Point, by []string) result {
	rest := make([]api.Point, len(points))
	for i, one := range points {
		rest[i] = api.Point{Labels: label.Only(one.Labels, by), Value: one.Value}
	}
	slices.SortFunc(rest, compare) // with fewer labels they stand in another order
	var out result
	add := out.adder()
	for len(rest) > 0 {
		n := 1
		for n < len(rest) && compare(rest[0], rest[n]) == 0 {
			n++
		}
		add(rest[0].Labels, fold(code, pointValues(rest[:n])))
		rest = rest[n:]
	}
	return out
}

func compare(x, y api.Point) int { return label.Compare(x.Labels, y.Labels) }

// less is 0 less each point.
func less(of result) result {
	out := result{alone: of.alone}
	add := out.adder()
	for _, one := range of.points {
		add(one.Labels, -one.Value)
	}
	return out
}

// both are two results by a sign between them.
func both(code int, x, y result) result {
	out := result{alone: x.alone && y.alone}
	add := out.adder()
	sign := func(l []api.Label, a, b int64) {
		if value, ok := arithmetic(code, a, b); ok {
			add(l, value)
		}
	}
	switch {
	case x.alone:
		for _, a := range x.points { // one, or none
			for _, b := range y.points {
				sign(b.Labels, a.Value, b.Value)
			}
		}
	case y.alone:
		for _, b := range y.points {
			for _, a := range x.points {
				sign(a.Labels, a.Value, b.Value)
			}
		}
	default:
		pairs(x.points, y.points, sign)
	}
	return out
}

// pairs tells each two points of the same labels, of two lists in order.
func pairs(x, y []api.Point, tell func(l []api.Label, a, b int64)) {
	for len(x) > 0 && len(y) > 0 {
		order := compare(x[0], y[0])
		if order == 0 {
			tell(x[0].Labels, x[0].Value, y[0].Value)
		}
		if order <= 0 {
			x = x[1:]
		}
		if order >= 0 {
			y = y[1:]
		}
	}
}

// arithmetic is two numbers by a sign between them (all wraps), or nothing.
func arithmetic(code int, a, b int64) (int64, bool) {
	switch {
	case code == api.Add:
		return a + b, true
	case code == api.Sub:
		return a - b, true
	case code == api.Mul:
		return a * b, true
	case b != 0:
		return a / b, true
	}
	return 0, false
}
