package store

import (
	"slices"

	"raingauge/api"
	"raingauge/eval"
	"raingauge/index"
	"raingauge/label"
	"raingauge/roll"
)

// Rolled is labels, and buckets.
type Rolled struct {
	Labels  []api.Label
	Buckets []api.Bucket
}

// Select are all series that match, in the order of their labels, with their samples from one time to another one; none without samples. ErrArg: matchers may not be.
func (s *Store) Select(m []api.Matcher, from, to int64) ([]api.Series, error) {
	if !label.Asked(m) {
		return nil, api.ErrArg
	}
	l := s.has().picked(m, from, to)
	for i := range l {
		l[i].Labels = slices.Clone(l[i].Labels) // Merge may share them with what it is given
	}
	return l, nil
}

// Rollup is what Select tells, in spans. Select's errors; roll.Up's.
func (s *Store) Rollup(m []api.Matcher, from, to, span int64) ([]Rolled, error) {
	l, err := s.Select(m, from, to)
	if err != nil {
		return nil, err
	}
	if _, err := roll.Up(nil, span); err != nil { // also where there are no series
		return nil, err
	}
	var out []Rolled
	for _, one := range l {
		buckets, err := roll.Up(one.Samples, span)
		if err != nil {
			return nil, err
		}
		out = append(out, Rolled{Labels: one.Labels, Buckets: buckets})
	}
	return out, nil
}

// Query is what a question comes to at a time. eval.Eval's errors.
func (s *Store) Query(q *api.Ask, at int64) ([]api.Point, bool, error) {
	return eval.Eval(q, at, s.Select)
}

// Values is all that a label's name says, in order. ErrArg: it may not be a name.
func (s *Store) Values(name string) ([]string, error) {
	if !label.Name(name) {
		return nil, api.ErrArg
	}
	var all [][]api.Label
	for _, l := range s.has().lists() {
		for _, one := range l {
			all = append(all, one.Labels)
		}
	}
	x, err := index.New(all)
	if err != nil {
		return nil, err
	}
	return x.Values(name), nil
}
