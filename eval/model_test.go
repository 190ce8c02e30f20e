package eval_test

// What chapter 12 says, once more. Whether a question is ALONE, and what is asked of the Source, in which order, is told by the question's form alone. What it comes to is told for one series at a time, from above: which labels there may be, and which number stands at just these. Numbers have no bound; they are wrapped where that is to be seen.

import (
	"cmp"
	"errors"
	"fmt"
	"math/big"
	"math/rand/v2"
	"slices"
	"strconv"
	"strings"
	"testing"

	"raingauge/api"
	"raingauge/ask"
	"raingauge/eval"
)

// key is labels as a text that stands in order where they do: no byte of them is below 32, so that a beginning stands first.
func key(l []api.Label) string {
	var b strings.Builder
	for _, one := range l {
		b.WriteString(one.Name + "\x00" + one.Value + "\x00")
	}
	return b.String()
}

func unkey(s string) (l []api.Label) {
	parts := strings.Split(s, "\x00")
	for i := 0; i+1 < len(parts); i += 2 {
		l = append(l, api.Label{Name: parts[i], Value: parts[i+1]})
	}
	return l
}

// onlyKey is the key of the labels of some names.
func onlyKey(s string, names []string) string {
	return key(slices.DeleteFunc(unkey(s), func(l api.Label) bool { return !slices.Contains(names, l.Name) }))
}

// wrapped is the number that has the same lowest 64 bits.
func wrapped(n *big.Int) int64 {
	low := new(big.Int).And(n, new(big.Int).SetUint64(1<<64-1))
	return int64(low.Uint64())
}

func modelAlone(q *api.Ask) bool {
	switch q.Code {
	case api.Num:
		return true
	case api.Neg:
		return modelAlone(q.Left)
	case api.Add, api.Sub, api.Mul, api.Div:
		return modelAlone(q.Left) && modelAlone(q.Right)
	}
	return false
}

// modelEvents are what is asked of the Source, from the left, each as a text, up to what may not be: then the last one is empty.
func modelEvents(q *api.Ask, at int64) (out []string) {
	for _, part := range []*api.Ask{q.Left, q.Right} {
		if part != nil {
			out = append(out, modelEvents(part, at)...)
		}
		if slices.Contains(out, "") {
			return out
		}
	}
	switch {
	case q.Code >= api.Pick && q.Code <= api.Delta:
		return append(out, asked(q.Match, at-q.Span+1, at))
	case q.Code >= api.Total && q.Code <= api.Many && modelAlone(q.Left):
		return append(out, "")
	}
	return out
}

// asked is a question of the Source as a text.
func asked(m []api.Matcher, from, to int64) string {
	return fmt.Sprintf("%s %d to %d", ask.Matchers(m), from, to)
}

// model knows all series, and when it is asked.
type model struct {
	all []api.Series
	at  int64
}

func (m *model) series(q *api.Ask, at string) (values []int64) {
	for _, x := range m.all {
		for _, s := range x.Samples {
			if key(x.Labels) == at && holds(x.Labels, q.Match) && s.Time > m.at-q.Span && s.Time <= m.at {
				values = append(values, s.Value)
			}
		}
	}
	return values
}

func holds(l []api.Label, m []api.Matcher) bool {
	for _, one := range m {
		said := ""
		for _, x := range l {
			if x.Name == one.Name {
				said = x.Value
			}
		}
		if held := said == one.Value || one.Op >= api.Begins && strings.HasPrefix(said, one.Value); held == (one.Op == api.IsNot || one.Op == api.BeginsNot) {
			return false
		}
	}
	return true
}

// keys are the labels at which there may be a number (ALONE: none).
func (m *model) keys(q *api.Ask) (out []string) {
	switch {
	case q.Code >= api.Pick && q.Code <= api.Delta:
		for _, x := range m.all {
			out = append(out, key(x.Labels))
		}
	case q.Code >= api.Total && q.Code <= api.Many:
		for _, k := range m.keys(q.Left) {
			out = append(out, onlyKey(k, q.By))
		}
	default:
		for _, part := range []*api.Ask{q.Left, q.Right} {
			if part != nil {
				out = append(out, m.keys(part)...)
			}
		}
	}
	slices.Sort(out)
	return slices.Compact(out)
}

// number is what a question comes to at these labels (of what is ALONE: at any); nil is nothing.
func (m *model) number(q *api.Ask, at string) *big.Int {
	switch {
	case q.Code == api.Num:
		return big.NewInt(q.Num)
	case q.Code >= api.Pick && q.Code <= api.Delta:
		var values []*big.Int
		for _, v := range m.series(q, at) {
			values = append(values, big.NewInt(v))
		}
		return modelFold(q.Code, values)
	case q.Code >= api.Total && q.Code <= api.Many:
		var values []*big.Int
		for _, k := range m.keys(q.Left) {
			if n := m.number(q.Left, k); n != nil && onlyKey(k, q.By) == at {
				values = append(values, n)
			}
		}
		return modelFold(q.Code, values)
	}
	x, y := m.number(q.Left, at), new(big.Int)
	if q.Code != api.Neg {
		y = m.number(q.Right, at)
	}
	if x == nil || y == nil {
		return nil
	}
	return modelSign(q.Code, x, y)
}

func modelFold(code int, l []*big.Int) *big.Int {
	if len(l) == 0 {
		return nil
	}
	total := new(big.Int)
	rising := make([]int64, len(l))
	for i, n := range l {
		total.Add(total, n)
		rising[i] = wrapped(n)
	}
	first, last := l[0], l[len(l)-1]
	slices.Sort(rising)
	switch code {
	case api.Pick:
		return last
	case api.Delta:
		return new(big.Int).Sub(last, first)
	case api.Sum, api.Total:
		return total
	case api.Min, api.Least:
		return big.NewInt(rising[0])
	case api.Max, api.Most:
		return big.NewInt(rising[len(rising)-1])
	}
	return big.NewInt(int64(len(l)))
}

func modelSign(code int, x, y *big.Int) *big.Int {
	switch code {
	case api.Neg:
		return new(big.Int).Neg(x)
	case api.Add:
		return new(big.Int).Add(x, y)
	case api.Sub:
		return new(big.Int).Sub(x, y)
	case api.Mul:
		return new(big.Int).Mul(x, y)
	}
	if wrapped(y) == 0 {
		return nil
	}
	return new(big.Int).Quo(big.NewInt(wrapped(x)), big.NewInt(wrapped(y)))
}

// modelSaid is what a question without errors comes to, as said tells it.
func modelSaid(q *api.Ask, at int64, all []api.Series) string {
	m := &model{all, at}
	keys := m.keys(q)
	if modelAlone(q) {
		keys = []string{""}
	}
	var points []api.Point
	for _, k := range keys {
		if n := m.number(q, k); n != nil {
			points = append(points, api.Point{Labels: unkey(k), Value: wrapped(n)})
		}
	}
	return said(points, modelAlone(q))
}

// said is an answer as a text: "alone 5", "alone" (nothing), "points {a=x} 5 {b=y} 6", "points" (none).
func said(points []api.Point, alone bool) string {
	words := []string{"points"}
	if alone {
		words[0] = "alone"
	}
	for _, p := range points {
		if !alone || len(p.Labels) > 0 {
			words = append(words, labelsText(p.Labels))
		}
		words = append(words, strconv.FormatInt(p.Value, 10))
	}
	return strings.Join(words, " ")
}

func labelsText(l []api.Label) string {
	var words []string
	for _, one := range l {
		words = append(words, one.Name+"="+one.Value)
	}
	return "{" + strings.Join(words, " ") + "}"
}

// series are those of a text such as "a=x b=y 1:5 2:6; job=z 3:1": words with = are labels, words with : a time and a value; what stands behind ; is another one.
func series(text string) (l []api.Series) {
	if strings.TrimSpace(text) == "" {
		return nil
	}
	for part := range strings.SplitSeq(text, ";") {
		var x api.Series
		for _, word := range strings.Fields(part) {
			if name, value, ok := strings.Cut(word, "="); ok {
				x.Labels = append(x.Labels, api.Label{Name: name, Value: value})
				continue
			}
			time, value, _ := strings.Cut(word, ":")
			x.Samples = append(x.Samples, api.Sample{Time: whole(time), Value: whole(value)})
		}
		l = append(l, x)
	}
	return l
}

func whole(s string) int64 {
	n, err := strconv.ParseInt(s, 10, 64)
	if err != nil {
		panic(err)
	}
	return n
}

// text is series as series reads them.
func text(l []api.Series) string {
	var parts []string
	for _, x := range l {
		var words []string
		for _, one := range x.Labels {
			words = append(words, one.Name+"="+one.Value)
		}
		for _, s := range x.Samples {
			words = append(words, fmt.Sprintf("%d:%d", s.Time, s.Value))
		}
		parts = append(parts, strings.Join(words, " "))
	}
	return strings.Join(parts, "; ")
}

// well is a Source: it has series, keeps what it was asked, and tells an error where it is asked for the fail-th time (from 0 on; below 0: never). With bare it tells those series, too, that have no samples then.
type well struct {
	all   []api.Series
	bare  bool
	fail  int
	err   error
	asked []string
}

func (w *well) tell(m []api.Matcher, from, to int64) (out []api.Series, err error) {
	w.asked = append(w.asked, asked(m, from, to))
	for _, x := range w.all {
		var l []api.Sample
		for _, s := range x.Samples {
			if s.Time >= from && s.Time <= to {
				l = append(l, s)
			}
		}
		if holds(x.Labels, m) && (len(l) > 0 || w.bare) {
			out = append(out, api.Series{Labels: x.Labels, Samples: l})
		}
	}
	if len(w.asked) == w.fail+1 {
		return out, w.err
	}
	return out, nil
}

// dump is all of a question.
func dump(q *api.Ask) string {
	if q == nil {
		return "-"
	}
	return fmt.Sprintf("(%d %d %+v %d %q %s %s)", q.Code, q.Num, q.Match, q.Span, q.By, dump(q.Left), dump(q.Right))
}

// wantErrno: it is that Errno, and no At is in it, and nothing stands beside it.
func wantErrno(t *testing.T, what string, points []api.Point, alone bool, err error, want api.Errno) {
	t.Helper()
	var place *api.At
	if api.Tell(err) != want || errors.As(err, &place) || points != nil || alone {
		t.Errorf("%.300s: error %#v, %s, not plainly %v", what, err, said(points, alone), want)
	}
}

var errOwn = errors.New("the well is dry")

// check holds Eval against the model: what it answers, what it asks of the Source, and what it tells where that tells an error, at each question of it. The question, and what the Source told, stay as they are.
func check(t *testing.T, q *api.Ask, at int64, all []api.Series) {
	t.Helper()
	what := fmt.Sprintf("%s at %d of %s", ask.Print(q), at, text(all))
	events := modelEvents(q, at)
	before := dump(q) + text(all)
	for fail := -1; fail <= len(events); fail++ {
		w := &well{all: all, bare: fail%2 == 0, fail: fail, err: errOwn}
		points, alone, err := eval.Eval(q, at, w.tell)
		want := events
		switch {
		case fail >= 0 && fail < len(events) && events[fail] != "":
			want = events[:fail+1]
			if err != errOwn || points != nil || alone {
				t.Errorf("%.300s: a Source that fails at question %d: %s, error %v", what, fail, said(points, alone), err)
			}
		case len(events) > 0 && events[len(events)-1] == "":
			want = events[:len(events)-1]
			wantErrno(t, what, points, alone, err, api.ErrArg)
		default:
			if got, asks := said(points, alone), modelSaid(q, at, all); err != nil || got != asks {
				t.Errorf("%.600s: %s, error %v, not %s", what, got, err, asks)
			}
		}
		if !slices.Equal(w.asked, want) {
			t.Errorf("%.300s: a Source that fails at question %d is asked %q, not %q", what, fail, w.asked, want)
		}
	}
	if after := dump(q) + text(all); after != before {
		t.Errorf("%.300s: it was %.300s, and is %.300s", what, before, after)
	}
}

// drawn makes numbers that look drawn, the same each time.
func drawn(seed uint64) *rand.Rand { return rand.New(rand.NewPCG(seed, 12)) }

func oneOf[T any](r *rand.Rand, l ...T) T { return l[r.IntN(len(l))] }

// anyNumber is a number, near 0 or far from it.
func anyNumber(r *rand.Rand) int64 {
	if r.IntN(3) > 0 {
		return r.Int64N(9) - 4
	}
	return int64(r.Uint64()) >> r.IntN(64)
}

// anyLabels are labels that may be a series', of few names and values, so that many are alike.
func anyLabels(r *rand.Rand) (l []api.Label) {
	for _, name := range []string{"A", "a", "ab", "b"} {
		if r.IntN(2) == 0 {
			l = append(l, api.Label{Name: name, Value: oneOf(r, "x", "xy", "y")})
		}
	}
	if l == nil {
		return []api.Label{{Name: "a", Value: "x"}}
	}
	return l
}

// anySeries are series that rise, none twice, some without samples, with times from 0 on.
func anySeries(r *rand.Rand, most int) (l []api.Series) {
	for range r.IntN(most + 1) {
		x := api.Series{Labels: anyLabels(r)}
		time := r.Int64N(20)
		for range r.IntN(6) {
			x.Samples = append(x.Samples, api.Sample{Time: time, Value: anyNumber(r)})
			time += 1 + r.Int64N(4)
		}
		l = append(l, x)
	}
	slices.SortFunc(l, func(a, b api.Series) int { return cmp.Compare(key(a.Labels), key(b.Labels)) })
	return slices.CompactFunc(l, func(a, b api.Series) bool { return key(a.Labels) == key(b.Labels) })
}

func anyMatch(r *rand.Rand) (l []api.Matcher) {
	for range r.IntN(3) {
		l = append(l, api.Matcher{Name: oneOf(r, "A", "a", "ab", "b", "none"), Op: r.IntN(4), Value: oneOf(r, "", "x", "xy", "y")})
	}
	return l
}

// anyAsk is a question, so deep at most.
func anyAsk(r *rand.Rand, deep int) *api.Ask {
	if deep == 0 || r.IntN(5) == 0 {
		if r.IntN(4) == 0 {
			return num(anyNumber(r))
		}
		return over(api.Pick+r.IntN(api.Total-api.Pick), 1+r.Int64N(20), anyMatch(r)...)
	}
	switch kind := r.IntN(9); {
	case kind == 0:
		return neg(anyAsk(r, deep-1))
	case kind < 4:
		var by []string
		for range r.IntN(3) {
			by = append(by, oneOf(r, "A", "a", "ab", "b", "none"))
		}
		return of(api.Total+r.IntN(api.Neg-api.Total), anyAsk(r, deep-1), by...)
	}
	return two(api.Add+r.IntN(4), anyAsk(r, deep-1), anyAsk(r, deep-1))
}
