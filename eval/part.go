package eval

import (
	"slices"

	"raingauge/api"
)

// A question that has itself among its parts must come to an end: within the document's limits no question has more parts, or more of them nested in one another.
const (
	mostParts  = 1 << 25
	mostNested = 1 << 17
)

// result is what comes of a question: points; or, alone, one without labels, or none.
type result struct {
	points []api.Point
	alone  bool
}

// asker asks a source at a time; left are the parts that may still be looked at.
type asker struct {
	at   int64
	src  Source
	left int
}

// part is what comes of a question in which so many more may be nested.
func (a *asker) part(q *api.Ask, deep int) (result, error) {
	a.left--
	switch {
	case q == nil:
		return result{}, api.ErrMissing
	case a.left < 0 || deep < 1:
		return result{}, api.ErrLimit
	case q.Code == api.Num:
		return result{points: []api.Point{{Value: q.Num}}, alone: true}, nil
	case q.Code >= api.Pick && q.Code <= api.Delta:
		return a.over(q)
	case q.Code >= api.Total && q.Code <= api.Neg:
		return a.ofOne(q, deep-1)
	case q.Code >= api.Add && q.Code <= api.Div:
		return a.ofTwo(q, deep-1)
	}
	return result{}, api.ErrArg
}

// over is what each series comes to over a span.
func (a *asker) over(q *api.Ask) (result, error) {
	series, err := a.tell(q.Match, a.at-(q.Span-1))
	if err != nil {
		return result{}, err
	}
	var out result
	add := out.adder()
	for _, one := range series {
		if len(one.Samples) > 0 {
			add(slices.Clone(one.Labels), fold(q.Code, sampleValues(one.Samples)))
		}
	}
	return out, nil
}

// tell is what the source tells. What it is handed is its own, so that it can't write into the question; and if it panics, the panic ends here.
func (a *asker) tell(m []api.Matcher, from int64) (l []api.Series, err error) {
	if a.src == nil {
		return nil, api.ErrMissing
	}
	defer func() {
		if recover() != nil {
			l, err = nil, api.ErrArg
		}
	}()
	return a.src(slices.Clone(m), from, a.at)
}

func (a *asker) ofOne(q *api.Ask, deep int) (result, error) {
	of, err := a.part(q.Left, deep)
	if err != nil {
		return result{}, err
	}
	if q.Code == api.Neg {
		return less(of), nil
	}
	if of.alone {
		return result{}, api.ErrArg
	}
	return together(q.Code, of.points, q.By), nil
}

func (a *asker) ofTwo(q *api.Ask, deep int) (result, error) {
	x, err := a.part(q.Left, deep)
	if err != nil {
		return result{}, err
	}
	y, err := a.part(q.Right, deep)
	if err != nil {
		return result{}, err
	}
	return both(q.Code, x, y), nil
}
