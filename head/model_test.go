package head_test

// What chapter 9 says, once more: all samples lie in one list, in the order in which they came, each with its series' labels as a text.

import (
	"cmp"
	"errors"
	"fmt"
	"math/rand/v2"
	"slices"
	"strconv"
	"strings"
	"testing"

	"raingauge/api"
	"raingauge/chunk"
	"raingauge/head"
	"raingauge/label"
)

// keeper is what a Head and its model have.
type keeper interface {
	Mark() int64
	Append(l []api.Series) error
	Cut(t int64) []api.Series
	Gone(g api.Gone)
	Series() []api.Series
}

type modelSample struct {
	key string
	api.Sample
}

type model struct {
	mark int64
	all  []modelSample
}

// key is labels as a text that stands in order where they do: no byte of them is below 32, so that a beginning stands first.
func key(l []api.Label) string {
	var b strings.Builder
	for _, one := range l {
		b.WriteString(one.Name + "\x00" + one.Value + "\x00")
	}
	return b.String()
}

func unkey(s string) (l []api.Label) {
	parts := strings.Split(s, "\x00")
	for i := 0; i+1 < len(parts); i += 2 {
		l = append(l, api.Label{Name: parts[i], Value: parts[i+1]})
	}
	return l
}

func (m *model) Mark() int64 { return m.mark }

// of are the times of a series' samples.
func (m *model) of(key string) (times []int64) {
	for _, s := range m.all {
		if s.key == key {
			times = append(times, s.Time)
		}
	}
	return times
}

// keys are all series', in order.
func (m *model) keys() (l []string) {
	for _, s := range m.all {
		l = append(l, s.key)
	}
	slices.Sort(l)
	return slices.Compact(l)
}

// wrong is the first error of a series, behind those that came before it.
func (m *model) wrong(x api.Series) api.Errno {
	if !label.Right(x.Labels) || !chunk.Right(x.Samples) || len(x.Samples) < 1 {
		return api.ErrArg
	}
	first, times := x.Samples[0].Time, m.of(key(x.Labels))
	switch {
	case !(first > m.mark):
		return api.ErrOrder
	case len(times) == 0 && len(m.keys()) == 60:
		return api.ErrFull
	case slices.ContainsFunc(times, func(t int64) bool { return !(first > t) }):
		return api.ErrOrder
	case len(times)+len(x.Samples) > 2000:
		return api.ErrFull
	}
	return api.OK
}

func (m *model) Append(l []api.Series) error {
	count := 0
	for _, x := range l {
		count += len(x.Samples)
	}
	if count > 40 {
		return api.ErrLimit
	}
	was := slices.Clone(m.all)
	for place, x := range l {
		if wrong := m.wrong(x); wrong != api.OK {
			m.all = was
			return &api.At{Err: wrong, Place: place}
		}
		for _, s := range x.Samples {
			m.all = append(m.all, modelSample{key(x.Labels), s})
		}
	}
	return nil
}

// grouped are samples as series, in order.
func grouped(l []modelSample) (out []api.Series) {
	l = slices.Clone(l)
	slices.SortFunc(l, func(a, b modelSample) int { return cmp.Or(cmp.Compare(a.key, b.key), cmp.Compare(a.Time, b.Time)) })
	for i, s := range l {
		if i == 0 || l[i-1].key != s.key {
			out = append(out, api.Series{Labels: unkey(s.key)})
		}
		out[len(out)-1].Samples = append(out[len(out)-1].Samples, s.Sample)
	}
	return out
}

// drop takes samples out, and tells them as series.
func (m *model) drop(goes func(s modelSample) bool) []api.Series {
	var gone []modelSample
	for i := 0; i < len(m.all); {
		if goes(m.all[i]) {
			gone = append(gone, m.all[i])
			m.all = slices.Delete(m.all, i, i+1)
		} else {
			i++
		}
	}
	return grouped(gone)
}

func (m *model) Cut(t int64) []api.Series {
	if m.mark < t {
		m.mark = t
	}
	return m.drop(func(s modelSample) bool { return !(s.Time > t) })
}

func (m *model) Gone(g api.Gone) {
	m.drop(func(s modelSample) bool {
		return label.All(unkey(s.key), g.Match) && !(s.Time < g.From) && !(s.Time > g.To)
	})
}

func (m *model) Series() []api.Series { return grouped(m.all) }

// series are those of a text such as "a=x b=y 1:5 2:6; job=z 3:1": words with = are labels, words with : a time and a value; what stands behind ; is another one.
func series(text string) (l []api.Series) {
	if strings.TrimSpace(text) == "" {
		return nil
	}
	for part := range strings.SplitSeq(text, ";") {
		var x api.Series
		for _, word := range strings.Fields(part) {
			if name, value, ok := strings.Cut(word, "="); ok {
				x.Labels = append(x.Labels, api.Label{Name: name, Value: value})
				continue
			}
			time, value, _ := strings.Cut(word, ":")
			x.Samples = append(x.Samples, api.Sample{Time: number(time), Value: number(value)})
		}
		l = append(l, x)
	}
	return l
}

func number(s string) int64 {
	n, err := strconv.ParseInt(s, 10, 64)
	if err != nil {
		panic(err)
	}
	return n
}

// text is series as series reads them.
func text(l []api.Series) string {
	var parts []string
	for _, x := range l {
		var words []string
		for _, one := range x.Labels {
			words = append(words, one.Name+"="+one.Value)
		}
		for _, s := range x.Samples {
			words = append(words, fmt.Sprintf("%d:%d", s.Time, s.Value))
		}
		parts = append(parts, strings.Join(words, " "))
	}
	return strings.Join(parts, "; ")
}

// ops are the marks that matchers of a text have, in the order of their numbers.
var ops = []string{"=", "!=", "^", "!^"}

// gone is that of a text such as "a=x b!^y 3 9": matchers, each a name, a mark and a value, and at last from which time to which.
func gone(text string) (g api.Gone) {
	words := strings.Fields(text)
	for _, word := range words[:len(words)-2] {
		from := strings.IndexAny(word, "!=^")
		to := from + strings.IndexAny(word[from:], "=^") + 1
		g.Match = append(g.Match, api.Matcher{Name: word[:from], Op: slices.Index(ops, word[from:to]), Value: word[to:]})
	}
	g.From, g.To = number(words[len(words)-2]), number(words[len(words)-1])
	return g
}

// told is an error as a text: its number, and its place, if it has one; nothing, if there is none.
func told(err error) string {
	var a *api.At
	if err == nil {
		return ""
	}
	if !errors.As(err, &a) {
		return strconv.Itoa(int(api.Tell(err)))
	}
	if a.Err != api.Tell(err) {
		return "an At of another error"
	}
	return fmt.Sprintf("%d at %d", a.Err, a.Place)
}

// state is all that a Head tells.
func state(h keeper) string { return fmt.Sprint(h.Mark(), " ", text(h.Series())) }

// having is a Head of a mark, behind Appends, each of a text.
func having(t *testing.T, mark int64, texts ...string) *head.Head {
	t.Helper()
	h := head.New(mark)
	for _, s := range texts {
		mustAppend(t, h, series(s))
	}
	return h
}

func mustAppend(t *testing.T, h keeper, l []api.Series) {
	t.Helper()
	if err := h.Append(l); err != nil {
		t.Fatalf("Append of %.300s: error %s", text(l), told(err))
	}
}

// wantText holds a text against what it is to be.
func wantText(t *testing.T, what, got, want string) {
	t.Helper()
	if got != want {
		t.Errorf("%.300s: %.600s, not %.600s", what, got, want)
	}
}

// wantAppend: Append tells that error, as told writes it; if it is one, nothing changes.
func wantAppend(t *testing.T, h keeper, l []api.Series, want string) {
	t.Helper()
	was := state(h)
	wantText(t, "the error of Append of "+text(l), told(h.Append(l)), want)
	if want != "" {
		wantText(t, "behind an Append that told an error, of "+text(l), state(h), was)
	}
}

// wantSame holds a Head against its model.
func wantSame(t *testing.T, what string, h, m keeper) {
	t.Helper()
	if got, want := state(h), state(m); got != want {
		t.Fatalf("%.600s: %.600s, not %.600s", what, got, want)
	}
}

// drawn makes numbers that look drawn, the same each time.
func drawn(seed uint64) *rand.Rand { return rand.New(rand.NewPCG(seed, 9)) }

// anyLabels are labels that may be a series', of few names and values, so that many are alike.
func anyLabels(r *rand.Rand) (l []api.Label) {
	for _, name := range []string{"A", "a", "ab", "b"} {
		if r.IntN(2) == 0 {
			l = append(l, api.Label{Name: name, Value: []string{"x", "xy", "y"}[r.IntN(3)]})
		}
	}
	if l == nil {
		return []api.Label{{Name: "a", Value: "x"}}
	}
	return l
}

// anySeries are series near a time, most of them such as may come.
func anySeries(r *rand.Rand, near int64, most int) (l []api.Series) {
	for range r.IntN(most + 1) {
		x := api.Series{Labels: anyLabels(r)}
		time := near + r.Int64N(9) - 2
		for range 1 + r.IntN(4) {
			x.Samples = append(x.Samples, api.Sample{Time: time, Value: r.Int64N(9) - 4})
			time += 1 + r.Int64N(4)
		}
		switch r.IntN(60) {
		case 0:
			x.Samples = nil
		case 1:
			x.Labels = append(x.Labels, api.Label{Name: "a", Value: "x"})
		case 2:
			x.Samples = append(x.Samples, x.Samples[0])
		}
		l = append(l, x)
	}
	return l
}

// anyGone is what is taken out, near a time.
func anyGone(r *rand.Rand, near int64) (g api.Gone) {
	for range r.IntN(3) {
		g.Match = append(g.Match, api.Matcher{Name: []string{"A", "a", "ab", "b", "none"}[r.IntN(5)], Op: r.IntN(4), Value: []string{"", "x", "xy", "y"}[r.IntN(4)]})
	}
	g.From = near + r.Int64N(40) - 30
	g.To = g.From + r.Int64N(30) - 3
	return g
}
