package eval_test

import (
	"errors"
	"fmt"
	"math"
	"slices"
	"strings"
	"testing"

	"raingauge/api"
	"raingauge/ask"
	"raingauge/chunk"
	"raingauge/eval"
	"raingauge/label"
)

// The heads of the chapter's type and function.
var (
	_ func(q *api.Ask, at int64, src eval.Source) (points []api.Point, alone bool, err error) = eval.Eval
	_ eval.Source                                                                             = func(m []api.Matcher, from, to int64) ([]api.Series, error) { return nil, nil }
)

const least, greatest = math.MinInt64, math.MaxInt64

// Questions, written out.
func num(n int64) *api.Ask                 { return &api.Ask{Code: api.Num, Num: n} }
func neg(q *api.Ask) *api.Ask              { return &api.Ask{Code: api.Neg, Left: q} }
func two(code int, a, b *api.Ask) *api.Ask { return &api.Ask{Code: code, Left: a, Right: b} }
func over(code int, span int64, l ...api.Matcher) *api.Ask {
	return &api.Ask{Code: code, Match: l, Span: span}
}
func of(code int, q *api.Ask, by ...string) *api.Ask { return &api.Ask{Code: code, Left: q, By: by} }

func parse(t *testing.T, s string) *api.Ask {
	t.Helper()
	q, err := ask.Parse(s)
	if err != nil {
		t.Fatalf("%q: %v", s, err)
	}
	return q
}

// want: a question comes to this, and the model says so, too.
func want(t *testing.T, q *api.Ask, at int64, all []api.Series, answer string) {
	t.Helper()
	points, alone, err := eval.Eval(q, at, (&well{all: all, fail: -1}).tell)
	if got := said(points, alone); err != nil || got != answer {
		t.Errorf("%s at %d of %s: %s, error %v, not %s", ask.Print(q), at, text(all), got, err, answer)
	}
	check(t, q, at, all)
}

// wants: questions by their texts, and what they come to.
func wants(t *testing.T, at int64, all string, answers [][2]string) {
	t.Helper()
	for _, c := range answers {
		want(t, parse(t, c[0]), at, series(all), c[1])
	}
}

// kinds are questions of each kind, those that ask the Source and those that don't.
func kinds() (l []*api.Ask) {
	for code := api.Pick; code <= api.Delta; code++ {
		l = append(l, over(code, 10))
	}
	for code := api.Total; code <= api.Many; code++ {
		l = append(l, of(code, over(api.Pick, 10)), of(code, over(api.Pick, 10), "a"), of(code, num(1)))
	}
	for code := api.Add; code <= api.Div; code++ {
		l = append(l, two(code, over(api.Pick, 10), over(api.Sum, 5)), two(code, num(1), over(api.Pick, 10)), two(code, over(api.Pick, 10), num(0)), two(code, num(3), num(0)))
	}
	return append(l, num(5), neg(num(5)), neg(over(api.Pick, 10)))
}

// 12.1: at is from -MaxTime to MaxTime; beyond it is ErrRange, ahead of all that the question tells, and the Source is not asked.
func TestRange(t *testing.T) {
	for _, at := range []int64{-api.MaxTime, -api.MaxTime + 1, -1, 0, 1, api.MaxTime - 1, api.MaxTime} {
		for _, q := range kinds() {
			check(t, q, at, series(fmt.Sprintf("a=x %d:7; a=y %d:8 %d:9", at, at-3, at-1)))
		}
		want(t, num(4), at, nil, "alone 4")
		want(t, over(api.Pick, 1), at, series(fmt.Sprintf("a=x %d:7", at)), "points {a=x} 7")
	}
	for _, at := range []int64{-api.MaxTime - 1, api.MaxTime + 1, least, greatest, least + 1, greatest - 1, 1 << 62, -1 << 62} {
		for _, q := range append(kinds(), nil, &api.Ask{}) {
			w := &well{fail: 0, err: errOwn}
			points, alone, err := eval.Eval(q, at, w.tell)
			wantErrno(t, fmt.Sprint(dump(q), " at ", at), points, alone, err, api.ErrRange)
			if w.asked != nil {
				t.Errorf("%s at %d: the Source is asked %q", dump(q), at, w.asked)
			}
			points, alone, err = eval.Eval(q, at, nil)
			wantErrno(t, fmt.Sprint(dump(q), " at ", at, " of no Source"), points, alone, err, api.ErrRange)
		}
	}
}

// 12.1: the Source is asked of Match, from Span less 1 ahead of at to at: by each kind, at each Span, and at each edge of at.
func TestAsked(t *testing.T) {
	m := []api.Matcher{{Name: "a", Op: api.Is, Value: "x"}, {Name: "b", Op: api.BeginsNot, Value: ""}, {Name: "a", Op: api.IsNot, Value: "y"}}
	spans := []int64{1, 2, 3, 4, 5, 6, 7, 8, 9, 10, 299, 300, 301, api.MaxTime - 1, api.MaxTime}
	for code := api.Pick; code <= api.Delta; code++ {
		for _, span := range spans {
			for _, at := range []int64{-api.MaxTime, -1, 0, 1, 77, api.MaxTime} {
				for n := range len(m) + 1 {
					w := &well{fail: -1}
					if _, _, err := eval.Eval(over(code, span, m[:n]...), at, w.tell); err != nil {
						t.Errorf("%d over %d at %d: %v", code, span, at, err)
					}
					if want := []string{asked(m[:n], at-(span-1), at)}; !slices.Equal(w.asked, want) {
						t.Errorf("%d over %d at %d: asked %q, not %q", code, span, at, w.asked, want)
					}
				}
			}
		}
	}
	for _, c := range [][]string{
		{`{}`, "{} 701 to 1000"}, {`{a="x"}`, `{a="x"} 701 to 1000`}, {`count({a!="x",b^="y"}[1])`, `{a!="x",b^="y"} 1000 to 1000`}, {"sum({}[2])", "{} 999 to 1000"}, {"delta({}[0])", "{} 1000 to 1000"},
		{`min({a!^""}[1001])`, `{a!^""} 0 to 1000`}, {`max({}[1002])`, "{} -1 to 1000"}, {"total({})", "{} 701 to 1000"}, {"-{}", "{} 701 to 1000"}, {"3"}, {"-3 * 2"},
		{`{a="x"} + sum({b="y"}[3]) * 2 / {c="z"}`, `{a="x"} 701 to 1000`, `{b="y"} 998 to 1000`, `{c="z"} 701 to 1000`}, {"{} - {}", "{} 701 to 1000", "{} 701 to 1000"}, // of the same again, too
		{`many({a="1"} - {a="2"} - ({a="3"} - {a="4"})) by (a) / {a="5"}`, `{a="1"} 701 to 1000`, `{a="2"} 701 to 1000`, `{a="3"} 701 to 1000`, `{a="4"} 701 to 1000`, `{a="5"} 701 to 1000`},
		{`0 * {a="1"} + {b="1"} / 0`, `{a="1"} 701 to 1000`, `{b="1"} 701 to 1000`}, {`1 / 0 + {b="1"}`, `{b="1"} 701 to 1000`}, // also where nothing can come of it
	} {
		w := &well{fail: -1}
		if _, _, err := eval.Eval(parse(t, c[0]), 1000, w.tell); err != nil || !slices.Equal(w.asked, c[1:]) {
			t.Errorf("%s: asked %q, error %v, not %q", c[0], w.asked, err, c[1:])
		}
	}
	q := parse(t, "{} + {}") // one part at two places is asked twice
	q.Right = q.Left
	check(t, q, 5, series("a=x 1:4; a=y 2:3"))
}

// otherErr is an error that no part of the program has made.
type otherErr struct{ of error }

func (e *otherErr) Error() string { return "other: " + e.of.Error() }
func (e *otherErr) Unwrap() error { return e.of }

// 12.1: the Source's error is told as it tells it, with nothing beside it, whatever it is, and wherever the question stands.
func TestSourceError(t *testing.T) {
	all := series("a=x 1:4; a=y 2:3")
	for _, failed := range []error{api.ErrArg, api.ErrRange, api.ErrSpoilt, api.OK, api.Errno(99), &api.At{Err: api.ErrState, Place: 3}, errOwn, &otherErr{errOwn}, &otherErr{&api.At{Err: api.ErrFull, Place: 1}}} {
		for _, s := range []string{"{}", "count({}[5])", "sum({}[5])", "min({}[5])", "max({}[5])", "delta({}[5])", "total({})", "least({}) by (a)", "most({})", "many({}) by (a)", "-{}", "1 + {}", "{} - 1", "{} * {}", "1 / {}", "1 / 0 + {}", "-total(-(2 * {})) by (b)"} {
			points, alone, err := eval.Eval(parse(t, s), 5, (&well{all: all, fail: 0, err: failed}).tell)
			if err != failed || points != nil || alone {
				t.Errorf("%s: %s, error %v, not %v", s, said(points, alone), err, failed)
			}
		}
	}
}

// 12.1: of several questions of the Source the first one, from the left, that tells an error is told, and no other one is asked behind it: each of three fails by itself, or with those behind it.
func TestWhichSourceError(t *testing.T) {
	for _, s := range []string{
		`{a="1"} + {a="2"} * {a="3"}`, `({a="1"} + {a="2"}) * {a="3"}`, `{a="1"} / ({a="2"} - {a="3"})`, `total({a="1"}) by (a) + -sum({a="2"}[3]) / many({a="3"})`, `-({a="1"} - 1 - {a="2"} - 1 / 0 - {a="3"})`, `total({a="1"} + total({a="2"} + total({a="3"})))`, `1 + {a="1"} * (2 + {a="2"} * (3 + {a="3"}))`,
	} {
		for set := range 8 {
			var count, first int
			src := func(m []api.Matcher, from, to int64) ([]api.Series, error) {
				count++
				if m[0].Value != fmt.Sprint(count) {
					t.Errorf("%s: question %d is of %s", s, count, m[0].Value)
				}
				if set>>(count-1)&1 == 1 {
					return series("a=x 1:1"), &api.At{Err: api.ErrState, Place: count}
				}
				return nil, nil
			}
			for first = 1; first <= 3 && set>>(first-1)&1 == 0; first++ {
			}
			points, alone, err := eval.Eval(parse(t, s), 5, src)
			var at *api.At
			switch {
			case set == 0:
				if err != nil || count != 3 {
					t.Errorf("%s: error %v behind %d", s, err, count)
				}
			case !errors.As(err, &at) || at.Place != first || count != first || points != nil || alone:
				t.Errorf("%s of %b: error %v behind %d, %s", s, set, err, count, said(points, alone))
			}
		}
	}
}

// 12.1: ErrArg is told where it stands, from the left, beside the Source's errors: what stands ahead of it is asked, what stands behind it is not.
func TestArg(t *testing.T) {
	for _, c := range []struct {
		text   string
		asked  int  // how often, if no question of it fails
		source bool // its error is told, if the first question of it fails
	}{
		{"total(1)", 0, false}, {"least(1)", 0, false}, {"most(1)", 0, false}, {"many(1)", 0, false}, {"total(1) by (a)", 0, false}, {"total(1 / 0)", 0, false}, {"least(1 / 0)", 0, false}, {"most(0 / 0) by (a)", 0, false}, {"many(1 / 0)", 0, false}, {"total(-1)", 0, false}, {"total(1 + 2 * 3)", 0, false}, {"total(-(1 / 0))", 0, false}, {"many(1 / 0 + 1)", 0, false},
		{"total(total(1))", 0, false}, {"-total(1)", 0, false}, {"total(1) + 1", 0, false}, {"1 + total(1)", 0, false}, {"total(1) / 0", 0, false}, {"1 / 0 * total(1)", 0, false}, {"total(1) + most(2)", 0, false},
		{"total(1) + {}", 0, false}, {"{} + total(1)", 1, true}, {"total(1) - ({} + {})", 0, false}, {"{} + {} - total(1)", 2, true}, {"{} + (total(1) - {})", 1, true}, {"{} * many({} + total(2))", 2, true}, {"(total(1) + {}) * {}", 0, false}, {"total({}) + total(1)", 1, true}, {"most(total({}) + least(1))", 1, true}, {"most(least(1) + total({}))", 0, false},
	} {
		q := parse(t, c.text)
		check(t, q, 5, series("a=x 1:4; a=y 2:3"))
		for _, fail := range []int{-1, 0} {
			w := &well{fail: fail, err: errOwn}
			points, alone, err := eval.Eval(q, 5, w.tell)
			asks := c.asked
			if fail == 0 && c.source {
				asks = 1
				if err != errOwn || points != nil || alone {
					t.Errorf("%s: error %v, %s, not the Source's", c.text, err, said(points, alone))
				}
			} else {
				wantErrno(t, c.text, points, alone, err, api.ErrArg)
			}
			if len(w.asked) != asks {
				t.Errorf("%s: asked %q", c.text, w.asked)
			}
		}
	}
}

// 12.1: Num is the number, ALONE.
func TestNum(t *testing.T) {
	for _, n := range []int64{0, 1, -1, 5, 999999999999999999, greatest, least, least + 1, greatest - 1} {
		want(t, num(n), 7, series("a=x 7:1"), fmt.Sprint("alone ", n))
	}
	wants(t, 7, "a=x 7:1", [][2]string{{"0", "alone 0"}, {"007", "alone 7"}, {"999999999999999999", "alone 999999999999999999"}})
}

// 12.1: Pick to Delta: of each series that has samples a point.
func TestOver(t *testing.T) {
	wants(t, 9, "", [][2]string{{"{}", "points"}, {"count({}[5])", "points"}, {"sum({}[5])", "points"}, {"min({}[5])", "points"}, {"max({}[5])", "points"}, {"delta({}[5])", "points"}})
	wants(t, 9, "a=x 9:4", [][2]string{{"{}", "points {a=x} 4"}, {"count({}[5])", "points {a=x} 1"}, {"sum({}[5])", "points {a=x} 4"}, {"min({}[5])", "points {a=x} 4"}, {"max({}[5])", "points {a=x} 4"}, {"delta({}[5])", "points {a=x} 0"}})
	wants(t, 9, "a=x 1:7 5:-2 6:9 8:3 9:4", [][2]string{{"{}", "points {a=x} 4"}, {"count({}[5])", "points {a=x} 4"}, {"sum({}[5])", "points {a=x} 14"}, {"min({}[5])", "points {a=x} -2"}, {"max({}[5])", "points {a=x} 9"}, {"delta({}[5])", "points {a=x} 6"},
		{"count({}[9])", "points {a=x} 5"}, {"count({}[8])", "points {a=x} 4"}, {"count({}[4])", "points {a=x} 3"}, {"count({}[1])", "points {a=x} 1"}, {"count({}[0])", "points {a=x} 1"}, {"delta({}[9])", "points {a=x} -3"}, {"delta({}[2])", "points {a=x} 1"}, {"delta({}[1])", "points {a=x} 0"}, {"sum({}[1099511627776])", "points {a=x} 21"}})
	wants(t, 9, "a=x 3:5 7:5 9:5; a=y 8:0 9:0", [][2]string{{"{}", "points {a=x} 5 {a=y} 0"}, {"count({}[9])", "points {a=x} 3 {a=y} 2"}, {"sum({}[9])", "points {a=x} 15 {a=y} 0"}, {"min({}[9])", "points {a=x} 5 {a=y} 0"}, {"max({}[9])", "points {a=x} 5 {a=y} 0"}, {"delta({}[9])", "points {a=x} 0 {a=y} 0"}})
	wants(t, 9, "a=x b=y 1:1; a=y; a=z 10:3; b=x 9:4 10:8; b=y 0:1 8:2", [][2]string{{"{}", "points {a=x b=y} 1 {b=x} 4 {b=y} 2"}, {"count({}[300])", "points {a=x b=y} 1 {b=x} 1 {b=y} 2"}, {`{b="y"}`, "points {a=x b=y} 1 {b=y} 2"}, {`{b!="y"}`, "points {b=x} 4"}, {`{a^="x"}`, "points {a=x b=y} 1"}, {`{a!^"x",b=""}`, "points"}, {`sum({a=""}[9])`, "points {b=x} 4 {b=y} 2"}, {"sum({}[2])", "points {b=x} 4 {b=y} 2"}, {"min({}[1])", "points {b=x} 4"}, {`max({none="x"}[9])`, "points"}})
	want(t, over(api.Pick, 1), 9, series("a=x 8:1; a=y 9:2"), "points {a=y} 2")
	want(t, over(api.Pick, 2), 9, series("a=x 8:1; a=y 9:2; a=z 7:1"), "points {a=x} 1 {a=y} 2")
	wants(t, 300, "a=x 0:1; a=y 1:2; a=z 301:3", [][2]string{{"{}", "points {a=y} 2"}}) // Pick's span is 300
}

// 12.1: over a span all wraps, and the least and the greatest number there is are told.
func TestOverFar(t *testing.T) {
	far := fmt.Sprintf("a=x 1:%d 2:%d; b=x 1:%d 2:%d; c=x 1:%d 2:%d; d=x 1:%d; e=x 1:%d; f=x 1:-1 2:%d; g=x 1:1 2:%d", int64(least), int64(greatest), int64(greatest), int64(least), int64(greatest), int64(greatest), int64(least), int64(greatest), int64(greatest), int64(least))
	wants(t, 2, far, [][2]string{
		{"{}", "points {a=x} 9223372036854775807 {b=x} -9223372036854775808 {c=x} 9223372036854775807 {d=x} -9223372036854775808 {e=x} 9223372036854775807 {f=x} 9223372036854775807 {g=x} -9223372036854775808"},
		{"sum({}[2])", "points {a=x} -1 {b=x} -1 {c=x} -2 {d=x} -9223372036854775808 {e=x} 9223372036854775807 {f=x} 9223372036854775806 {g=x} -9223372036854775807"},
		{"min({}[2])", "points {a=x} -9223372036854775808 {b=x} -9223372036854775808 {c=x} 9223372036854775807 {d=x} -9223372036854775808 {e=x} 9223372036854775807 {f=x} -1 {g=x} -9223372036854775808"},
		{"max({}[2])", "points {a=x} 9223372036854775807 {b=x} 9223372036854775807 {c=x} 9223372036854775807 {d=x} -9223372036854775808 {e=x} 9223372036854775807 {f=x} 9223372036854775807 {g=x} 1"},
		{"delta({}[2])", "points {a=x} -1 {b=x} 1 {c=x} 0 {d=x} 0 {e=x} 0 {f=x} -9223372036854775808 {g=x} 9223372036854775807"},
		{"count({}[2])", "points {a=x} 2 {b=x} 2 {c=x} 2 {d=x} 1 {e=x} 1 {f=x} 2 {g=x} 2"},
	})
}

// 12.1: Total to Many: points together that have the same labels, of the names of By.
func TestTogether(t *testing.T) {
	wants(t, 9, "", [][2]string{{"total({})", "points"}, {"least({})", "points"}, {"most({}) by (a)", "points"}, {"many({})", "points"}, {"many(total({}) by (a)) by (b)", "points"}})
	wants(t, 9, "a=x 9:-4", [][2]string{
		{"total({})", "points {} -4"}, {"least({})", "points {} -4"}, {"most({})", "points {} -4"}, {"many({})", "points {} 1"}, {"total({}) by (a)", "points {a=x} -4"}, {"many({}) by (b)", "points {} 1"}, {"total(total({}))", "points {} -4"}, {"many(many({}))", "points {} 1"}, {"total({} / 0)", "points"},
	})
	all := "a=x b=1 9:1; a=x b=2 9:20; a=x c=1 9:300; a=y b=1 9:-5; b=2 9:7; d=z 9:0"
	wants(t, 9, all, [][2]string{
		{"total({})", "points {} 323"}, {"least({})", "points {} -5"}, {"most({})", "points {} 300"}, {"many({})", "points {} 6"},
		{"total({}) by (a)", "points {} 7 {a=x} 321 {a=y} -5"}, {"least({}) by (a)", "points {} 0 {a=x} 1 {a=y} -5"}, {"most({}) by (a)", "points {} 7 {a=x} 300 {a=y} -5"}, {"many({}) by (a)", "points {} 2 {a=x} 3 {a=y} 1"},
		{"total({}) by (b)", "points {} 300 {b=1} -4 {b=2} 27"}, {"most({}) by (b)", "points {} 300 {b=1} 1 {b=2} 20"}, {"least({}) by (b)", "points {} 0 {b=1} -5 {b=2} 7"}, {"many({}) by (b)", "points {} 2 {b=1} 2 {b=2} 2"},
		{"total({}) by (a, b)", "points {} 0 {a=x} 300 {a=x b=1} 1 {a=x b=2} 20 {a=y b=1} -5 {b=2} 7"}, {"total({}) by (b, a)", "points {} 0 {a=x} 300 {a=x b=1} 1 {a=x b=2} 20 {a=y b=1} -5 {b=2} 7"}, {"total({}) by (a, a)", "points {} 7 {a=x} 321 {a=y} -5"},
		{"many({}) by (none)", "points {} 6"}, {"many({}) by (none, d)", "points {} 5 {d=z} 1"}, {"total({}) by (a, b, c, d)", "points {a=x b=1} 1 {a=x b=2} 20 {a=x c=1} 300 {a=y b=1} -5 {b=2} 7 {d=z} 0"},
		{"many(total({}) by (a, b)) by (b)", "points {} 2 {b=1} 2 {b=2} 2"}, {"total(many({}) by (a)) by (a)", "points {} 2 {a=x} 3 {a=y} 1"}, {"most(many({}) by (a))", "points {} 3"}, {"total({}) by (b) + total({}) by (b, none)", "points {} 600 {b=1} -8 {b=2} 54"},
		{`total({a="x"}) by (b)`, "points {} 300 {b=1} 1 {b=2} 20"}, {`many({a="none"})`, "points"}, {"total({} / {}) by (a)", "points {} 1 {a=x} 3 {a=y} 1"},
	})
	wants(t, 9, "a=z b=1 9:1; aa=x b=2 9:2; b=1 9:4; b=1 c=2 9:8", [][2]string{{"total({}) by (b)", "points {b=1} 13 {b=2} 2"}, {"total({}) by (aa, b)", "points {aa=x b=2} 2 {b=1} 13"}}) // they stand in another order than those of which they are
	wants(t, 9, "a=1 b=9 9:1; a=2 b=8 9:2; a=3 b=7 9:3", [][2]string{{"total({}) by (b)", "points {b=7} 3 {b=8} 2 {b=9} 1"}, {"-total({}) by (b)", "points {b=7} -3 {b=8} -2 {b=9} -1"}})
}

// 12.1: together all wraps.
func TestTogetherFar(t *testing.T) {
	wants(t, 9, fmt.Sprintf("a=1 9:%d; a=2 9:%d; b=1 9:%d; b=2 9:1", int64(least), int64(least), int64(greatest)), [][2]string{
		{`total({a!=""})`, "points {} 0"}, {`total({b!=""})`, "points {} -9223372036854775808"}, {"total({})", "points {} -9223372036854775808"}, {"least({})", "points {} -9223372036854775808"}, {"most({})", "points {} 9223372036854775807"},
		{"least(-{})", "points {} -9223372036854775808"}, {"most(-{})", "points {} -1"}, {"total(-{})", "points {} -9223372036854775808"}, {`total({a="1"} + {a="1"})`, "points {} 0"}, {"most({} * 2)", "points {} 2"},
	})
}

// 12.1: Neg: 0 less each.
func TestNeg(t *testing.T) {
	want(t, neg(num(least)), 9, nil, "alone -9223372036854775808")
	want(t, neg(num(greatest)), 9, nil, "alone -9223372036854775807")
	want(t, neg(neg(num(least))), 9, nil, "alone -9223372036854775808")
	want(t, neg(num(-5)), 9, nil, "alone 5")
	wants(t, 9, fmt.Sprintf("a=x 9:5; a=y 9:%d; b=x 9:-1; c=x 9:0; d=x 9:%d", int64(least), int64(greatest)), [][2]string{
		{"-0", "alone 0"}, {"-5", "alone -5"}, {"--5", "alone 5"}, {"-(1 / 0)", "alone"}, {"-{}", "points {a=x} -5 {a=y} -9223372036854775808 {b=x} 1 {c=x} 0 {d=x} -9223372036854775807"}, {"--{}", "points {a=x} 5 {a=y} -9223372036854775808 {b=x} -1 {c=x} 0 {d=x} 9223372036854775807"},
		{`-{none="x"}`, "points"}, {`-({} / 0)`, "points"}, {"-count({}[1])", "points {a=x} -1 {a=y} -1 {b=x} -1 {c=x} -1 {d=x} -1"}, {`-total({a="x"})`, "points {} -5"},
	})
}

// 12.1: Add to Div of two ALONE.
func TestAlone(t *testing.T) {
	wants(t, 9, "a=x 9:5", [][2]string{
		{"2 + 3", "alone 5"}, {"2 - 3", "alone -1"}, {"2 * 3", "alone 6"}, {"7 / 2", "alone 3"}, {"2 + 3 * 4", "alone 14"}, {"(2 + 3) * 4", "alone 20"}, {"9 - 3 - 2", "alone 4"}, {"9 - (3 - 2)", "alone 8"}, {"8 / 4 / 2", "alone 1"}, {"8 / (4 / 2)", "alone 4"},
		{"1 / 0", "alone"}, {"0 / 0", "alone"}, {"-1 / 0", "alone"}, {"1 / (2 - 2)", "alone"}, {"1 / 0 + 1", "alone"}, {"1 + 1 / 0", "alone"}, {"1 / 0 * 0", "alone"}, {"0 * (1 / 0)", "alone"}, {"1 / 0 - 1 / 0", "alone"}, {"1 / (1 / 0)", "alone"}, {"0 / (1 / 0)", "alone"}, {"1 / 0 / 0", "alone"},
	})
	for _, c := range []struct {
		code       int
		a, b, want int64
	}{
		{api.Add, greatest, 1, least}, {api.Add, least, -1, greatest}, {api.Add, least, least, 0}, {api.Add, greatest, greatest, -2}, {api.Add, least, greatest, -1}, {api.Sub, least, 1, greatest}, {api.Sub, greatest, -1, least}, {api.Sub, 0, least, least}, {api.Sub, -1, least, greatest}, {api.Sub, least, least, 0}, {api.Sub, least, greatest, 1}, {api.Sub, greatest, least, -1},
		{api.Mul, greatest, 2, -2}, {api.Mul, least, 2, 0}, {api.Mul, least, -1, least}, {api.Mul, -1, least, least}, {api.Mul, least, least, 0}, {api.Mul, greatest, greatest, 1}, {api.Mul, greatest, -1, -greatest}, {api.Mul, least, greatest, least}, {api.Mul, 1 << 32, 1 << 32, 0}, {api.Mul, 1 << 32, 1 << 31, least}, {api.Mul, least, 0, 0}, {api.Mul, 3037000500, 3037000500, -9223372036709301616},
		{api.Div, 7, 2, 3}, {api.Div, -7, 2, -3}, {api.Div, 7, -2, -3}, {api.Div, -7, -2, 3}, {api.Div, 6, 2, 3}, {api.Div, -6, 2, -3}, {api.Div, 1, 2, 0}, {api.Div, -1, 2, 0}, {api.Div, 1, -2, 0}, {api.Div, -1, -2, 0}, {api.Div, 0, 5, 0}, {api.Div, 0, -5, 0}, {api.Div, least, -1, least}, {api.Div, least, 1, least}, {api.Div, greatest, -1, -greatest}, {api.Div, least, least, 1}, {api.Div, least, greatest, -1}, {api.Div, greatest, least, 0}, {api.Div, least, 2, -1 << 62}, {api.Div, least, -2, 1 << 62}, {api.Div, least + 1, -1, greatest}, {api.Div, 5, 5, 1}, {api.Div, -5, 5, -1},
	} {
		want(t, two(c.code, num(c.a), num(c.b)), 9, nil, fmt.Sprint("alone ", c.want))
		one := func(name string, n int64) string { return fmt.Sprintf("%s=x 9:%d", name, n) }
		want(t, two(c.code, num(c.a), over(api.Pick, 1)), 9, series(one("b", c.b)), fmt.Sprint("points {b=x} ", c.want))
		want(t, two(c.code, over(api.Pick, 1), num(c.b)), 9, series(one("a", c.a)), fmt.Sprint("points {a=x} ", c.want))
		want(t, two(c.code, over(api.Min, 2), over(api.Pick, 1)), 9, series(fmt.Sprintf("a=x 8:%d 9:%d", min(c.a, c.b), c.b)), fmt.Sprint("points {a=x} ", quick(c.code, min(c.a, c.b), c.b)))
		want(t, two(c.code, of(api.Total, over(api.Pick, 1, api.Matcher{Name: "a", Op: api.Is, Value: "x"})), of(api.Most, over(api.Pick, 1, api.Matcher{Name: "b", Op: api.Is, Value: "x"}))), 9, series(one("a", c.a)+";"+one("b", c.b)), fmt.Sprint("points {} ", c.want))
	}
	for _, n := range []int64{least, -1, 0, 1, greatest} { // by 0
		want(t, two(api.Div, num(n), num(0)), 9, nil, "alone")
		want(t, two(api.Div, num(n), over(api.Pick, 1)), 9, series("a=x 9:0; b=x 9:1"), fmt.Sprint("points {b=x} ", n))
		want(t, two(api.Div, over(api.Pick, 1), num(0)), 9, series(fmt.Sprintf("a=x 9:%d", n)), "points")
	}
}

// quick is a sign between two numbers, by the model.
func quick(code int, a, b int64) int64 {
	return wrapped((&model{}).number(two(code, num(a), num(b)), ""))
}

// 12.1: Add to Div of ALONE and points, and the other way round.
func TestAloneAndPoints(t *testing.T) {
	wants(t, 9, "a=x 9:5; a=y 9:0; b=x 9:-3", [][2]string{
		{"{} + 2", "points {a=x} 7 {a=y} 2 {b=x} -1"}, {"2 + {}", "points {a=x} 7 {a=y} 2 {b=x} -1"}, {"{} - 2", "points {a=x} 3 {a=y} -2 {b=x} -5"}, {"2 - {}", "points {a=x} -3 {a=y} 2 {b=x} 5"}, {"{} * 2", "points {a=x} 10 {a=y} 0 {b=x} -6"}, {"2 * {}", "points {a=x} 10 {a=y} 0 {b=x} -6"}, {"{} / 2", "points {a=x} 2 {a=y} 0 {b=x} -1"}, {"7 / {}", "points {a=x} 1 {b=x} -2"},
		{"{} / 0", "points"}, {"0 / {}", "points {a=x} 0 {b=x} 0"}, {"1 / 0 + {}", "points"}, {"{} - 1 / 0", "points"}, {"1 / 0 * {}", "points"}, {"{} / (1 / 0)", "points"}, {"(1 / 0) / {}", "points"}, {`1 + {none="x"}`, "points"}, {`{none="x"} / 0`, "points"}, {`1 / 0 - {none="x"}`, "points"}, {"1 + 2 * {} - 3", "points {a=x} 8 {a=y} -2 {b=x} -8"},
		{"total({}) + 1", "points {} 3"}, {"1 - total({})", "points {} -1"}, {"many({}) / 2", "points {} 1"}, {"many({}) / 0", "points"}, {"total(7 / {})", "points {} -1"}, {"many(7 / {})", "points {} 2"}, {"total({}) * 1 / 0", "points"}, {"total(1 / 0 + {})", "points"},
	})
}

// 12.1: Add to Div of points and points: each two of the same labels; others are nothing.
func TestPointsAndPoints(t *testing.T) {
	wants(t, 9, "a=x 7:2 9:5; a=x b=y 9:4; a=y 9:0; b=x 8:-3 9:-7; b=y 5:1", [][2]string{
		{"{} + {}", "points {a=x} 10 {a=x b=y} 8 {a=y} 0 {b=x} -14 {b=y} 2"}, {"{} - {}", "points {a=x} 0 {a=x b=y} 0 {a=y} 0 {b=x} 0 {b=y} 0"}, {"{} * {}", "points {a=x} 25 {a=x b=y} 16 {a=y} 0 {b=x} 49 {b=y} 1"}, {"{} / {}", "points {a=x} 1 {a=x b=y} 1 {b=x} 1 {b=y} 1"},
		{"{} - min({}[3])", "points {a=x} 3 {a=x b=y} 0 {a=y} 0 {b=x} 0"}, {"min({}[2]) - {}", "points {a=x} 0 {a=x b=y} 0 {a=y} 0 {b=x} 0"}, {"sum({}[9]) / count({}[9])", "points {a=x} 3 {a=x b=y} 4 {a=y} 0 {b=x} -5 {b=y} 1"}, {"{} / delta({}[9])", "points {a=x} 1 {b=x} 1"}, {"delta({}[9]) / {}", "points {a=x} 0 {a=x b=y} 0 {b=x} 0 {b=y} 0"},
		{`{a="x"} + {b="y"}`, "points {a=x b=y} 8"}, {`{a="x",b=""} + {b="y"}`, "points"}, {`{a="x"} * {a="y"}`, "points"}, {`{a="x"} - {}`, "points {a=x} 0 {a=x b=y} 0"}, {`{} - {a="x"}`, "points {a=x} 0 {a=x b=y} 0"}, {`{} + {none="x"}`, "points"}, {`{none="x"} + {}`, "points"}, {`{none="x"} / {none="x"}`, "points"}, {`{b="x"} * {}`, "points {b=x} 49"}, {`{} * {b="x"}`, "points {b=x} 49"}, {`{a=""} + {b!=""}`, "points {b=x} -14 {b=y} 2"}, {`{b!=""} + {a!=""}`, "points {a=x b=y} 8"},
		{"total({}) + {}", "points"}, {"{} - total({})", "points"}, {"total({}) - many({})", "points {} -2"}, {"total({}) by (a) + {}", "points {a=x} 14 {a=y} 0"}, {"{} + total({}) by (a)", "points {a=x} 14 {a=y} 0"}, {"total({}) by (b) - total({}) by (a)", "points {} 11"}, {"most({}) by (b) * many({}) by (b, none)", "points {} 10 {b=x} -7 {b=y} 8"}, {"total({}) / total({} / 0)", "points"},
	})
	wants(t, 9, "a=x 9:1; ab=x 9:2; b=x 9:3; b=xy 9:4; b=y 9:5", [][2]string{{`{b!="x"} + {a!="x"}`, "points {ab=x} 4 {b=xy} 8 {b=y} 10"}, {`{b^="x"} - {b!="x"}`, "points {b=xy} 0"}, {`{b="xy"} + {b="x"}`, "points"}})
}

// 12.1: points stand in their labels' order (4.1), whatever they come of: names and values byte by byte, a beginning first.
func TestOrder(t *testing.T) {
	all := series("A=z 9:1; _=x 9:2; a=X 9:3; a=x 9:4; a=x b=x 9:5; a=x b=y 9:6; a=x c=a 9:7; a=xy 9:8; a=y 9:9; aa=x 9:10; b=x 9:11")
	for _, s := range []string{"{}", "sum({}[3])", "-{}", "{} + {}", "1 - {}", "{} * 0", "total({}) by (a)", "total({}) by (a, b, c)", "most({}) by (b, aa)", "many({}) by (c, A, b)", "least({} - {}) by (b, a)"} {
		points, _, err := eval.Eval(parse(t, s), 9, (&well{all: all, fail: -1}).tell)
		if err != nil || len(points) < 2 {
			t.Errorf("%s: %d points, error %v", s, len(points), err)
		}
		for i := 1; i < len(points); i++ {
			if label.Compare(points[i-1].Labels, points[i].Labels) >= 0 {
				t.Errorf("%s: %s", s, said(points, false))
			}
		}
		check(t, parse(t, s), 9, all)
	}
	want(t, parse(t, "total({}) by (a, b)"), 9, all, "points {} 13 {a=X} 3 {a=x} 11 {a=x b=x} 5 {a=x b=y} 6 {a=xy} 8 {a=y} 9 {b=x} 11")
}

// 12.1: questions in questions: each kind in each kind, and in that again.
func TestEachInEach(t *testing.T) {
	leaves := []*api.Ask{num(3), two(api.Div, num(1), num(0)), over(api.Pick, 300), over(api.Count, 4, api.Matcher{Name: "a", Op: api.IsNot, Value: "y"}), over(api.Delta, 9), over(api.Pick, 5, api.Matcher{Name: "none", Op: api.Is, Value: "x"})}
	all := series("a=x 7:2 9:5; a=x b=y 9:4; a=y 9:0; b=x 8:-3 9:-7; b=y 5:1")
	grow := func(l []*api.Ask) (out []*api.Ask) {
		for i, q := range l {
			out = append(out, neg(q))
			for code := api.Total; code <= api.Many; code++ {
				out = append(out, of(code, q), of(code, q, "b"))
			}
			for code := api.Add; code <= api.Div; code++ {
				out = append(out, two(code, q, leaves[i%len(leaves)]), two(code, leaves[(i+code)%len(leaves)], q))
			}
		}
		return out
	}
	once := grow(leaves)
	for _, l := range [][]*api.Ask{leaves, once, grow(once)} {
		for _, q := range l {
			check(t, q, 9, all)
		}
	}
}

// 12.1: as deep as may be: of what Parse tells, and of what is put together of that.
func TestDeep(t *testing.T) {
	all := series("a=x b=1 9:1; a=x b=2 9:2; a=y b=1 9:4")
	deep := func(ahead, of, behind string, n int) string {
		return strings.Repeat(ahead, n) + of + strings.Repeat(behind, n)
	}
	wants(t, 9, text(all), [][2]string{
		{deep("-", "5", "", 8), "alone 5"}, {deep("-", "5", "", 7), "alone -5"}, {deep("-", "{}", "", 7), "points {a=x b=1} -1 {a=x b=2} -2 {a=y b=1} -4"}, {deep("(1 + ", "{}", ")", 8), "points {a=x b=1} 9 {a=x b=2} 10 {a=y b=1} 12"},
		{deep("total(", "{}", ")", 8), "points {} 7"}, {deep("many(", "{}", ") by (a)", 8), "points {a=x} 1 {a=y} 1"}, {deep("-total(", "{}", ") by (a)", 4), "points {a=x} 3 {a=y} 4"}, {deep("({} - ", "{}", ")", 8), "points {a=x b=1} 1 {a=x b=2} 2 {a=y b=1} 4"},
		{deep("", "1", " + 1", 59), "alone 60"}, {deep("", "2", " * 2", 59), "alone 1152921504606846976"}, {deep("", "{}", " + {}", 39), "points {a=x b=1} 40 {a=x b=2} 80 {a=y b=1} 160"},
	})
	const most = 1 << 16 // parts nested in one another
	chain := func(first *api.Ask, next func(q *api.Ask) *api.Ask) *api.Ask {
		for range most - 1 {
			first = next(first)
		}
		return first
	}
	src := (&well{all: all, fail: -1}).tell
	for what, c := range map[string]struct {
		q    *api.Ask
		want string
	}{
		"neg":        {chain(num(5), neg), "alone -5"},
		"neg points": {chain(over(api.Pick, 9), neg), "points {a=x b=1} -1 {a=x b=2} -2 {a=y b=1} -4"},
		"left":       {chain(num(5), func(q *api.Ask) *api.Ask { return two(api.Add, q, num(2)) }), "alone 131075"},
		"right":      {chain(over(api.Pick, 9), func(q *api.Ask) *api.Ask { return two(api.Add, num(2), q) }), "points {a=x b=1} 131071 {a=x b=2} 131072 {a=y b=1} 131074"},
		"total":      {chain(over(api.Pick, 9), func(q *api.Ask) *api.Ask { return of(api.Total, q, "b") }), "points {b=1} 5 {b=2} 2"},
	} {
		points, alone, err := eval.Eval(c.q, 9, src)
		if got := said(points, alone); err != nil || got != c.want {
			t.Errorf("%s: %s, error %v, not %s", what, got, err, c.want)
		}
	}
	wide := num(1)
	for range 18 {
		wide = two(api.Add, wide, wide)
	}
	if points, alone, err := eval.Eval(wide, 9, src); err != nil || said(points, alone) != "alone 262144" {
		t.Errorf("wide: %s, error %v", said(points, alone), err)
	}
}

// 12.1: any question of any series at any time is as the model says.
func TestAny(t *testing.T) {
	r := drawn(1)
	for range 20000 {
		check(t, anyAsk(r, r.IntN(5)), r.Int64N(45)-5, anySeries(r, 6))
	}
}

// evalSaid is what a question comes to, as a text, errors too.
func evalSaid(q *api.Ask, at int64, src eval.Source) string {
	points, alone, err := eval.Eval(q, at, src)
	if err != nil {
		return fmt.Sprintf("%v %s", err, said(points, alone))
	}
	return said(points, alone)
}

// moved are series, each sample so much later.
func moved(l []api.Series, by int64) (out []api.Series) {
	for _, x := range l {
		y := api.Series{Labels: x.Labels}
		for _, s := range x.Samples {
			y.Samples = append(y.Samples, api.Sample{Time: s.Time + by, Value: s.Value})
		}
		out = append(out, y)
	}
	return out
}

// 12.1 (the document's fourth word): time is relative: all is moved, and the answer is the same.
func TestTimeIsRelative(t *testing.T) {
	r := drawn(2)
	for range 3000 {
		q, at, all := anyAsk(r, r.IntN(5)), r.Int64N(45), anySeries(r, 6)
		want := evalSaid(q, at, (&well{all: all, fail: -1}).tell)
		for _, by := range []int64{-at, 1, -1, 1000, -api.MaxTime, api.MaxTime - 50, -api.MaxTime - at, api.MaxTime - at, r.Int64N(1 << 39)} {
			if got := evalSaid(q, at+by, (&well{all: moved(all, by), fail: -1}).tell); got != want {
				t.Errorf("%s at %d of %s: %s; all moved by %d: %s", ask.Print(q), at, text(all), want, by, got)
			}
		}
	}
}

// answers is a Source that answers a question by points that were told already: each as one sample.
func answers(at int64, points []api.Point) eval.Source {
	return func(m []api.Matcher, from, to int64) (out []api.Series, err error) {
		for _, p := range points {
			out = append(out, api.Series{Labels: p.Labels, Samples: []api.Sample{{Time: at, Value: p.Value}}})
		}
		return out, nil
	}
}

// 12.1 (the document's fourth word): the whole is its parts: what a question comes to hangs on what its parts come to alone.
func TestWholeIsItsParts(t *testing.T) {
	r := drawn(3)
	for range 5000 {
		at, all := r.Int64N(45), anySeries(r, 6)
		src := (&well{all: all, fail: -1}).tell
		left, right := anyAsk(r, r.IntN(3)), anyAsk(r, r.IntN(3))
		whole := oneOf(r, neg(left), of(api.Total+r.IntN(4), left, "a"), of(api.Total+r.IntN(4), left), two(api.Add+r.IntN(4), left, right))
		want := evalSaid(whole, at, src)
		parts := []*api.Ask{}
		told := []eval.Source{}
		for _, part := range []*api.Ask{whole.Left, whole.Right} {
			if part == nil {
				continue
			}
			points, alone, err := eval.Eval(part, at, src)
			switch {
			case err != nil:
				told = append(told, func([]api.Matcher, int64, int64) ([]api.Series, error) { return nil, err })
				parts = append(parts, over(api.Pick, 1))
			case alone && len(points) == 0:
				parts = append(parts, two(api.Div, num(1), num(0)))
			case alone:
				parts = append(parts, num(points[0].Value))
			default:
				told = append(told, answers(at, points))
				parts = append(parts, over(api.Pick, 1))
			}
		}
		again := &api.Ask{Code: whole.Code, By: whole.By, Left: parts[0]}
		if len(parts) == 2 {
			again.Right = parts[1]
		}
		next := func(m []api.Matcher, from, to int64) ([]api.Series, error) {
			first := told[0]
			told = told[1:]
			return first(m, from, to)
		}
		if got := evalSaid(again, at, next); got != want {
			t.Errorf("%s at %d of %s: %s; of its parts: %s", ask.Print(whole), at, text(all), want, got)
		}
	}
}

// 12.1 (the document's fourth word): what spans come to is put together of what their parts come to, and what all come to together of what some come to.
func TestSpansAndParts(t *testing.T) {
	r := drawn(4)
	for range 3000 {
		at, all := 10+r.Int64N(30), anySeries(r, 6)
		src := (&well{all: all, fail: -1}).tell
		m, long := anyMatch(r), 2+r.Int64N(20)
		short := 1 + r.Int64N(long-1)
		for _, code := range []int{api.Count, api.Sum, api.Min, api.Max} {
			early, _, _ := eval.Eval(over(code, long-short, m...), at-short, src)
			late, _, _ := eval.Eval(over(code, short, m...), at, src)
			both := slices.Concat(early, late)
			for i := range both {
				both[i].Labels = append(slices.Clone(both[i].Labels), api.Label{Name: "part", Value: fmt.Sprint(i)})
			}
			slices.SortFunc(both, func(x, y api.Point) int { return label.Compare(x.Labels, y.Labels) })
			together := of(map[int]int{api.Count: api.Total, api.Sum: api.Total, api.Min: api.Least, api.Max: api.Most}[code], over(api.Pick, 1), "A", "a", "ab", "b")
			if got, want := evalSaid(together, at, answers(at, both)), evalSaid(over(code, long, m...), at, src); got != want {
				t.Errorf("%d over %d at %d of %s: %s; of its parts: %s", code, long, at, text(all), want, got)
			}
		}
		q := over(api.Pick, long, m...)
		for _, code := range []int{api.Total, api.Least, api.Most} {
			if got, want := evalSaid(of(code, of(code, q, "a", "b"), "b"), at, src), evalSaid(of(code, q, "b"), at, src); got != want {
				t.Errorf("%s: %s, not %s", ask.Print(of(code, q, "b")), got, want)
			}
		}
		if got, want := evalSaid(of(api.Total, of(api.Many, q, "a", "b"), "b"), at, src), evalSaid(of(api.Many, q, "b"), at, src); got != want {
			t.Errorf("many of %s: %s, not %s", ask.Print(q), got, want)
		}
	}
}

// 12.1: what is printed and parsed again comes to the same.
func TestPrintedAgain(t *testing.T) {
	for _, s := range []string{"(total( sum({a=\"x\"}[10])) by (b) - (3 * 2))", "-(1 - {}) * 2 / count({}[9])", "most({} - 1 - (2 - 3)) by (a, b)"} {
		q := parse(t, s)
		all := series("a=x b=1 3:4 9:1; a=x b=2 9:2; a=y b=1 9:4")
		if got, want := evalSaid(parse(t, ask.Print(q)), 9, (&well{all: all, fail: -1}).tell), evalSaid(q, 9, (&well{all: all, fail: -1}).tell); got != want {
			t.Errorf("%s: %s, printed: %s", s, want, got)
		}
	}
}

// roomy is a list with room behind its length, in which something stands.
func roomy[T any](l []T, behind T) []T {
	out := append(make([]T, 0, len(l)+3), l...)
	whole := out[:cap(out)]
	for i := len(l); i < cap(out); i++ {
		whole[i] = behind
	}
	return out
}

// roomySeries are series all of whose lists are roomy.
func roomySeries(l []api.Series) []api.Series {
	var out []api.Series
	for _, x := range l {
		out = append(out, api.Series{Labels: roomy(x.Labels, api.Label{Name: "behind", Value: "b"}), Samples: roomy(x.Samples, api.Sample{Time: 77, Value: 78})})
	}
	return roomy(out, api.Series{})
}

// laid is all that lies in series' memory, up to what room they have.
func laid(l []api.Series) string {
	var b strings.Builder
	for _, x := range l[:cap(l)] {
		fmt.Fprint(&b, x.Labels[:cap(x.Labels)], len(x.Labels), x.Samples[:cap(x.Samples)], len(x.Samples), ";")
	}
	return b.String()
}

// roomyAsk is a question all of whose lists are roomy.
func roomyAsk(q *api.Ask) *api.Ask {
	if q == nil {
		return nil
	}
	return &api.Ask{Code: q.Code, Num: q.Num, Span: q.Span, Match: roomy(q.Match, api.Matcher{Name: "behind"}), By: roomy(q.By, "behind"), Left: roomyAsk(q.Left), Right: roomyAsk(q.Right)}
}

func laidAsk(q *api.Ask) string {
	if q == nil {
		return ""
	}
	return dump(&api.Ask{Code: q.Code, Num: q.Num, Span: q.Span, Match: q.Match[:cap(q.Match)], By: q.By[:cap(q.By)]}) + laidAsk(q.Left) + laidAsk(q.Right)
}

// P4: Eval writes neither into the question nor into what the Source told, nor behind them; and a Source that writes into what it was handed doesn't change the question.
func TestHandedIn(t *testing.T) {
	r := drawn(5)
	for range 3000 {
		q, at := roomyAsk(anyAsk(r, r.IntN(5))), r.Int64N(45)
		all := anySeries(r, 6)
		var told [][]api.Series
		var before []string
		w := &well{all: all, fail: -1}
		points, alone, err := eval.Eval(q, at, func(m []api.Matcher, from, to int64) ([]api.Series, error) {
			l, err := w.tell(m, from, to)
			l = roomySeries(l)
			told = append(told, l)
			before = append(before, laid(l))
			for i := range m[:cap(m)] {
				m[:cap(m)][i] = api.Matcher{Name: "spoilt"}
			}
			return l, err
		})
		if api.Tell(err) != api.ErrArg {
			if got, want := said(points, alone), modelSaid(q, at, all); err != nil || got != want {
				t.Errorf("%s at %d: %s, error %v, not %s", ask.Print(q), at, got, err, want)
			}
		}
		for i, l := range told {
			if laid(l) != before[i] {
				t.Errorf("%s at %d: what the Source told was %s and is %s", ask.Print(q), at, before[i], laid(l))
			}
		}
	}
	for range 3000 {
		q := anyAsk(r, r.IntN(5))
		given := roomyAsk(q)
		before := laidAsk(given)
		evalSaid(given, 20, (&well{all: anySeries(r, 6), fail: r.IntN(4) - 1, err: errOwn}).tell)
		if after := laidAsk(given); after != before {
			t.Errorf("the question was %s and is %s", before, after)
		}
	}
}

// spoil writes into all that an answer has, up to what room it has.
func spoil(points []api.Point) {
	for i := range points {
		l := points[i].Labels[:cap(points[i].Labels)]
		for j := range l {
			l[j] = api.Label{Name: "spoilt", Value: fmt.Sprint(i, j)}
		}
	}
	for i := range points[:cap(points)] {
		points[:cap(points)][i] = api.Point{Value: 99}
	}
}

// P4: what comes out is fresh: what is written into it changes neither the question, nor the next answer, nor another list of the same one.
func TestFresh(t *testing.T) {
	r := drawn(6)
	for range 3000 {
		q, at, all := anyAsk(r, r.IntN(5)), r.Int64N(45), anySeries(r, 6)
		before := dump(q)
		first, alone, err := eval.Eval(q, at, (&well{all: roomySeries(all), fail: -1}).tell)
		if err != nil {
			continue
		}
		second, _, _ := eval.Eval(q, at, (&well{all: all, fail: -1}).tell)
		want := said(second, alone)
		for i := range first { // each list apart from the others
			one, _, _ := eval.Eval(q, at, (&well{all: roomySeries(all), fail: -1}).tell)
			l := one[i].Labels[:cap(one[i].Labels)]
			for j := range l {
				l[j] = api.Label{Name: "spoilt"}
			}
			one[i].Labels = second[i].Labels
			if got := said(one, alone); got != want {
				t.Errorf("%s at %d: with the labels of %d spoilt: %s, not %s", ask.Print(q), at, i, got, want)
			}
		}
		spoil(first)
		third, _, _ := eval.Eval(q, at, (&well{all: all, fail: -1}).tell)
		if said(second, alone) != want || said(third, alone) != want || dump(q) != before {
			t.Errorf("%s at %d: %s, then %s, then %s", ask.Print(q), at, want, said(second, alone), said(third, alone))
		}
	}
}

// P4: an answer hangs on its arguments alone: also while others are worked out by others, and within the Source.
func TestWithin(t *testing.T) {
	all := series("a=x 7:2 9:5; a=x b=y 9:4; a=y 9:0; b=x 8:-3 9:-7")
	inner := (&well{all: all, fail: -1}).tell
	src := func(m []api.Matcher, from, to int64) ([]api.Series, error) {
		points, _, err := eval.Eval(over(api.Sum, to-from+1, m...), to, inner)
		if err != nil {
			return nil, err
		}
		return answers(to, points)(m, from, to)
	}
	want(t, parse(t, "total(sum({}[3]))"), 9, all, "points {} 1")
	if got := evalSaid(parse(t, "total(sum({}[3])) + 0"), 9, src); got != "points {} 1" {
		t.Errorf("within: %s", got)
	}
	q, ends := parse(t, "{} - min({}[9])"), make(chan string)
	for range 8 {
		go func() { ends <- evalSaid(q, 9, (&well{all: all, fail: -1}).tell) }()
	}
	for range 8 {
		if got := <-ends; got != "points {a=x} 3 {a=x b=y} 0 {a=y} 0 {b=x} 0" {
			t.Errorf("side by side: %s", got)
		}
	}
}

// 12.1: a Source by chunk's Between and label's All, as a store has it, comes to the same.
func TestBetween(t *testing.T) {
	r := drawn(7)
	for range 2000 {
		q, at, all := anyAsk(r, r.IntN(4)), r.Int64N(45), anySeries(r, 6)
		src := func(m []api.Matcher, from, to int64) (out []api.Series, err error) {
			for _, x := range all {
				if l := chunk.Between(x.Samples, from, to); len(l) > 0 && label.All(x.Labels, m) {
					out = append(out, api.Series{Labels: x.Labels, Samples: l})
				}
			}
			return out, nil
		}
		if got, want := evalSaid(q, at, src), evalSaid(q, at, (&well{all: all, fail: -1}).tell); got != want {
			t.Errorf("%s at %d of %s: %s, not %s", ask.Print(q), at, text(all), got, want)
		}
	}
}

// P1: no question, no Source, no such code, parts that are missing, spans that can't be, a Source that panics, or tells what may not be: each ends, and none panics; with an error nothing stands beside it.
func TestWhatMayNotBe(t *testing.T) {
	all := series("a=x 7:2 9:5; a=x b=y 9:4; a=y 9:0; b=x 8:-3 9:-7")
	good := (&well{all: all, fail: -1}).tell
	sources := []eval.Source{nil, good,
		func([]api.Matcher, int64, int64) ([]api.Series, error) { panic("no") }, func([]api.Matcher, int64, int64) ([]api.Series, error) { panic(api.ErrState) },
		func([]api.Matcher, int64, int64) ([]api.Series, error) {
			return []api.Series{{}, {Samples: make([]api.Sample, 3)}, {Labels: make([]api.Label, 20), Samples: []api.Sample{{Time: 5, Value: 1}, {Time: 3, Value: 2}}}, {Samples: make([]api.Sample, 3)}}, nil
		},
		func([]api.Matcher, int64, int64) ([]api.Series, error) {
			l := slices.Clone(all)
			slices.Reverse(l)
			return append(l, all...), nil
		},
	}
	asks := []*api.Ask{nil, {}, {Code: -1}, {Code: api.Div + 1}, {Code: greatest}, {Code: least}}
	for code := api.Num; code <= api.Div; code++ {
		asks = append(asks, &api.Ask{Code: code}, &api.Ask{Code: code, Left: num(1)}, &api.Ask{Code: code, Right: num(1)}, &api.Ask{Code: code, Left: &api.Ask{}, Right: num(1)}, two(code, over(api.Pick, 3), over(api.Pick, 9)))
		for _, span := range []int64{0, -1, least, greatest, 1 << 62} {
			asks = append(asks, over(code, span, make([]api.Matcher, 20)...))
		}
	}
	for _, q := range asks {
		for i, src := range sources {
			points, alone, err := eval.Eval(q, 9, src)
			if err != nil && (points != nil || alone || api.Tell(err) < 1) {
				t.Errorf("%s of Source %d: error %v, %s", dump(q), i, err, said(points, alone))
			}
		}
	}
	for _, q := range asks[:6] {
		if points, alone, err := eval.Eval(q, 9, good); err == nil {
			t.Errorf("%s: %s without an error", dump(q), said(points, alone))
		}
	}
}

// P1: a question that has itself among its parts ends, and so does one of few parts that stand at very many places.
func TestRound(t *testing.T) {
	src := (&well{all: series("a=x 9:5"), fail: -1}).tell
	for code := api.Total; code <= api.Div; code++ {
		left, right, both := &api.Ask{Code: code, Right: num(1)}, &api.Ask{Code: code, Left: num(1)}, &api.Ask{Code: code}
		left.Left, right.Right, both.Left, both.Right = left, right, both, both
		if code < api.Add {
			right = left
		}
		for _, q := range []*api.Ask{left, right, both, two(api.Add, num(1), left)} {
			points, alone, err := eval.Eval(q, 9, src)
			wantErrno(t, fmt.Sprint("round, ", code), points, alone, err, api.ErrLimit)
		}
	}
	q := num(1)
	for range 64 {
		q = two(api.Add, q, q)
	}
	points, alone, err := eval.Eval(q, 9, src)
	wantErrno(t, "wide", points, alone, err, api.ErrLimit)
}
