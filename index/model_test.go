package index_test

// What chapter 5 says, once more: each series is looked at anew for each question, by its words alone.

import (
	"errors"
	"math/rand/v2"
	"slices"
	"strings"
	"testing"

	"raingauge/api"
	"raingauge/index"
)

// labels of a text such as "a=x b=y"; an empty text has none.
func labels(text string) (l []api.Label) {
	for _, word := range strings.Fields(text) {
		name, value, _ := strings.Cut(word, "=")
		l = append(l, api.Label{Name: name, Value: value})
	}
	return l
}

// series are the labels of each text.
func series(texts ...string) (l [][]api.Label) {
	for _, text := range texts {
		l = append(l, labels(text))
	}
	return l
}

// ops are the marks that matchers of a text have, in the order of their numbers.
var ops = []string{"=", "!=", "^", "!^"}

// matchers of a text such as "a=x b!^y": a name, a mark, a value.
func matchers(text string) (l []api.Matcher) {
	for _, word := range strings.Fields(text) {
		from := strings.IndexAny(word, "!=^")
		to := from + strings.IndexAny(word[from:], "=^") + 1
		l = append(l, api.Matcher{Name: word[:from], Op: slices.Index(ops, word[from:to]), Value: word[to:]})
	}
	return l
}

// holds says whether labels are as a matcher asks.
func holds(l []api.Label, m api.Matcher) bool {
	var text string
	for _, one := range l {
		if one.Name == m.Name {
			text = one.Value
		}
	}
	begins := strings.Index(text, m.Value) == 0
	return []bool{text == m.Value, text != m.Value, begins, !begins}[m.Op]
}

// matchModel is what Match tells of matchers that may be.
func matchModel(l [][]api.Label, m []api.Matcher) (out []int) {
	for number, labels := range l {
		fails := 0
		for _, one := range m {
			if !holds(labels, one) {
				fails++
			}
		}
		if fails == 0 {
			out = append(out, number)
		}
	}
	return out
}

// textsModel are texts in order, each once.
func textsModel(l []string) []string {
	slices.SortFunc(l, func(a, b string) int { return slices.Compare([]byte(a), []byte(b)) })
	return slices.Compact(l)
}

// namesModel is what Names tells.
func namesModel(l [][]api.Label) (out []string) {
	for _, one := range slices.Concat(l...) {
		out = append(out, one.Name)
	}
	return textsModel(out)
}

// valuesModel is what Values tells.
func valuesModel(l [][]api.Label, name string) (out []string) {
	for _, one := range slices.Concat(l...) {
		if one.Name == name {
			out = append(out, one.Value)
		}
	}
	return textsModel(out)
}

// numbers are those of a row of signs: where they stand, if they are not blank.
func numbers(signs string) (out []int) {
	for at, c := range []byte(signs) {
		if c != ' ' && c != '.' {
			out = append(out, at)
		}
	}
	return out
}

// made is an index of series that may be.
func made(t *testing.T, l [][]api.Label) *index.Index {
	t.Helper()
	x, err := index.New(l)
	if err != nil || x == nil {
		t.Fatalf("New(%q) is %v, %v", l, x, err)
	}
	return x
}

// match is what Match tells of matchers that may be.
func match(t *testing.T, x *index.Index, m []api.Matcher) []int {
	t.Helper()
	got, err := x.Match(m)
	if err != nil {
		t.Fatalf("Match(%+v) is %v", m, err)
	}
	return got
}

// wantList holds a list against what it is to be.
func wantList[T comparable](t *testing.T, what string, got, want []T) {
	t.Helper()
	if !slices.Equal(got, want) {
		t.Errorf("%s: %+v, not %+v", what, got, want)
	}
}

// wantAt: it is ErrArg, in an At at that place.
func wantAt(t *testing.T, err error, place int) {
	t.Helper()
	var at *api.At
	if !errors.As(err, &at) || at.Err != api.ErrArg || at.Place != place {
		t.Errorf("the error is %+v, not ErrArg at %d", at, place)
	}
}

// drawn makes numbers that look drawn, the same each time.
func drawn(seed uint64) *rand.Rand { return rand.New(rand.NewPCG(seed, 2)) }

// anySeries are series that may be, of few names and values, so that many of them share some.
func anySeries(r *rand.Rand, most int) (l [][]api.Label) {
	for range r.IntN(most + 1) {
		var one []api.Label
		for _, name := range []string{"A", "_", "a", "ab", "b", "job"} {
			if r.IntN(2) == 0 {
				one = append(one, api.Label{Name: name, Value: []string{"x", "xy", "xyz", "y", "X", " ", "~"}[r.IntN(7)]})
			}
		}
		if one == nil {
			one = labels("a=x")
		}
		l = append(l, one)
	}
	return l
}

// anyMatchers are matchers that may be.
func anyMatchers(r *rand.Rand, most int) (l []api.Matcher) {
	for range r.IntN(most + 1) {
		name := []string{"A", "_", "a", "ab", "b", "job", "none"}[r.IntN(7)]
		l = append(l, api.Matcher{Name: name, Op: r.IntN(4), Value: []string{"", "x", "xy", "xyz", "y", "z", "X", " "}[r.IntN(8)]})
	}
	return l
}
