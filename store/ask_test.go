package store_test

import (
	"fmt"
	"slices"
	"strings"
	"testing"

	"raingauge/api"
	"raingauge/ask"
	"raingauge/disk"
	"raingauge/eval"
	"raingauge/label"
	"raingauge/store"
)

// spread lets series lie in the Head, in one block, in several, and in both.
var spread = []string{
	"append a=x 1:1 3:2; b=y 2:5; a=x b=y 1:7", "cut 3",
	"append a=x 4:3; c=z 5:1; b=y 6:6", "cut 6",
	"append a=x 7:4 9:5; d=w 8:2; b=y 9:7",
}

// 13.3: Select: of ALL of which All holds, in order, the samples Between the times; none without.
func TestSelect(t *testing.T) {
	r := began(t, spread...)
	for _, row := range []struct {
		match    string
		from, to int64
		want     string
	}{
		{"", least, greatest, "a=x 1:1 3:2 4:3 7:4 9:5; a=x b=y 1:7; b=y 2:5 6:6 9:7; c=z 5:1; d=w 8:2"},
		{"", -api.MaxTime, api.MaxTime, "a=x 1:1 3:2 4:3 7:4 9:5; a=x b=y 1:7; b=y 2:5 6:6 9:7; c=z 5:1; d=w 8:2"},
		{"", 1, 9, "a=x 1:1 3:2 4:3 7:4 9:5; a=x b=y 1:7; b=y 2:5 6:6 9:7; c=z 5:1; d=w 8:2"},
		{"", 2, 8, "a=x 3:2 4:3 7:4; b=y 2:5 6:6; c=z 5:1; d=w 8:2"},
		{"", 3, 4, "a=x 3:2 4:3"}, {"", 4, 3, ""}, {"", greatest, least, ""}, {"", 9, 9, "a=x 9:5; b=y 9:7"}, {"", 10, greatest, ""}, {"", least, 0, ""}, {"", least, 1, "a=x 1:1; a=x b=y 1:7"},
		{"a=x", least, greatest, "a=x 1:1 3:2 4:3 7:4 9:5; a=x b=y 1:7"},
		{"a=x b=", least, greatest, "a=x 1:1 3:2 4:3 7:4 9:5"},
		{"a!=x", least, greatest, "b=y 2:5 6:6 9:7; c=z 5:1; d=w 8:2"},
		{"b^y", 0, 5, "a=x b=y 1:7; b=y 2:5"},
		{"a!^x b!^y c!^z", least, greatest, "d=w 8:2"},
		{"none=x", least, greatest, ""}, {"none=", 8, 8, "d=w 8:2"},
		{"a^ a^ a^ a^ a^ a^ a^ d=w", least, greatest, "d=w 8:2"},
	} {
		for range 2 {
			l, err := r.s.Select(match(row.match), row.from, row.to)
			wantText(t, fmt.Sprint("Select of ", row), text(l)+told(err), row.want)
			r.start(t, -1)
		}
	}
}

// 13.3: Select, and Rollup: ErrArg, unless matchers are Asked, and nothing else.
func TestSelectWrong(t *testing.T) {
	for _, lines := range [][]string{nil, spread} {
		r := began(t, lines...)
		for _, m := range wrongMatchers() {
			if l, err := r.s.Select(m, 0, 9); l != nil || told(err) != "error 1" {
				t.Errorf("Select of %v: %v, %v", m, l, err)
			}
			for _, span := range []int64{0, 1, 5} {
				if l, err := r.s.Rollup(m, 0, 9, span); l != nil || told(err) != "error 1" {
					t.Errorf("Rollup of %v: %v, %v", m, l, err)
				}
			}
		}
	}
}

// rolled is what Rollup tells, as a text.
func rolled(l []store.Rolled, err error) string {
	var parts []string
	for _, x := range l {
		part := label.Text(x.Labels)
		for _, b := range x.Buckets {
			part += fmt.Sprint(" ", b)
		}
		parts = append(parts, part)
	}
	return strings.Join(parts, "; ") + told(err)
}

// 13.3: Rollup: of each that Select tells, what it comes to in spans.
func TestRollup(t *testing.T) {
	r := began(t, spread...)
	for _, row := range []struct {
		match          string
		from, to, span int64
		want           string
	}{
		{"a=x", 0, 99, 5, `{a="x"} {0 3 6 1 3} {5 2 9 4 5}; {a="x",b="y"} {0 1 7 7 7}`},
		{"b=y", 2, 8, 4, `{b="y"} {0 1 5 5 5} {4 1 6 6 6}`},
		{"d=w", 0, 9, 1, `{d="w"} {8 1 2 2 2}`},
		{"d=w", 0, 9, api.MaxTime, `{d="w"} {0 1 2 2 2}`},
		{"", 5, 6, 3, `{b="y"} {6 1 6 6 6}; {c="z"} {3 1 1 1 1}`},
		{"", 9, 5, 3, ""}, {"none=x", 0, 9, 3, ""},
	} {
		wantText(t, fmt.Sprint("Rollup of ", row), rolled(r.s.Rollup(match(row.match), row.from, row.to, row.span)), row.want)
	}
}

// 13.3: Rollup: ErrArg, unless the span is from 1 to MaxTime, also where there are no series, and of nothing.
func TestRollupSpan(t *testing.T) {
	for _, lines := range [][]string{nil, spread} {
		r := began(t, lines...)
		for span, want := range map[int64]string{least: "error 1", -api.MaxTime: "error 1", -1: "error 1", 0: "error 1", 1: "", 2: "", api.MaxTime: "", api.MaxTime + 1: "error 1", greatest: "error 1"} {
			for _, m := range []string{"", "none=x"} {
				l, err := r.s.Rollup(match(m), 0, 99, span)
				wantText(t, fmt.Sprint("the error of Rollup by ", span), told(err), want)
				if err != nil && l != nil {
					t.Errorf("Rollup by %d tells %v with an error", span, l)
				}
			}
		}
	}
}

// said is what Query tells, as a text.
func said(points []api.Point, alone bool, err error) string {
	words := []string{"points"}
	if alone {
		words[0] = "alone"
	}
	for _, p := range points {
		words = append(words, label.Text(p.Labels), fmt.Sprint(p.Value))
	}
	if err != nil {
		words = append(words, told(err))
	}
	return strings.Join(words, " ")
}

func parse(t *testing.T, s string) *api.Ask {
	t.Helper()
	q, err := ask.Parse(s)
	if err != nil {
		t.Fatalf("%s: %v", s, err)
	}
	return q
}

// 13.3: Query: Eval of the question, by Select: each kind of question, over samples in the Head and in blocks.
func TestQuery(t *testing.T) {
	r := began(t, spread...)
	for question, want := range map[string]string{
		`7`:                       `alone {} 7`,
		`{a="x"}`:                 `points {a="x"} 5 {a="x",b="y"} 7`,
		`count({a="x"}[9])`:       `points {a="x"} 5 {a="x",b="y"} 1`,
		`sum({b="y"}[8])`:         `points {b="y"} 18`,
		`min({}[9])`:              `points {a="x"} 1 {a="x",b="y"} 7 {b="y"} 5 {c="z"} 1 {d="w"} 2`,
		`max({}[4])`:              `points {a="x"} 5 {b="y"} 7 {d="w"} 2`,
		`delta({}[8])`:            `points {a="x"} 3 {b="y"} 2 {c="z"} 0 {d="w"} 0`,
		`total({})`:               `points {} 22`,
		`least(sum({}[5]))`:       `points {} 1`,
		`most(max({}[9])) by (a)`: `points {} 7 {a="x"} 7`,
		`many({}) by (b)`:         `points {} 3 {b="y"} 2`,
		`-{}`:                     `points {a="x"} -5 {a="x",b="y"} -7 {b="y"} -7 {c="z"} -1 {d="w"} -2`,
		`{} + 1`:                  `points {a="x"} 6 {a="x",b="y"} 8 {b="y"} 8 {c="z"} 2 {d="w"} 3`,
		`{} - sum({}[3])`:         `points {a="x"} -4 {b="y"} 0 {d="w"} 0`,
		`2 * {}`:                  `points {a="x"} 10 {a="x",b="y"} 14 {b="y"} 14 {c="z"} 2 {d="w"} 4`,
		`{} / 0`:                  `points`,
		`1 / 0`:                   `alone`,
		`total(1)`:                `points error 1`,
		`{none="x"}`:              `points`,
	} {
		wantText(t, question, said(r.s.Query(parse(t, question), 9)), want)
		r.start(t, -1)
	}
	wantText(t, "at 8", said(r.s.Query(parse(t, "{}"), 8)), `points {a="x"} 4 {a="x",b="y"} 7 {b="y"} 6 {c="z"} 1 {d="w"} 2`)
	wantText(t, "at 0", said(r.s.Query(parse(t, "{}"), 0)), `points`)
}

// 13.3: Query: ErrRange, unless the time is from -MaxTime to MaxTime, ahead of all else.
func TestQueryRange(t *testing.T) {
	r := began(t, "append a=x -1099511627776:1 1099511627776:2")
	for at, want := range map[int64]string{
		least: "points error 2", -api.MaxTime - 1: "points error 2", -api.MaxTime: `points {a="x"} 1`, 0: "points", api.MaxTime: `points {a="x"} 2`, api.MaxTime + 1: "points error 2", greatest: "points error 2",
	} {
		wantText(t, fmt.Sprint("at ", at), said(r.s.Query(parse(t, "{}"), at)), want)
	}
	wantText(t, "beyond, and wrong", said(r.s.Query(parse(t, "total(1)"), greatest)), "points error 2")
}

// 13.3: Query: Select's error is the Source's.
func TestQueryWrong(t *testing.T) {
	r := began(t, spread...)
	for _, m := range wrongMatchers() {
		wantText(t, fmt.Sprint("Query of ", m), said(r.s.Query(&api.Ask{Code: api.Pick, Match: m, Span: 1}, 9)), "points error 1")
	}
	if points, alone, err := r.s.Query(nil, 9); points != nil || alone || err == nil {
		t.Errorf("Query of no question: %v, %v, %v", points, alone, err)
	}
}

// 13.3: Values: all that ALL series say by a name, in order, each once.
func TestValues(t *testing.T) {
	r := began(t, "append a=x b=y 1:1; a=xy 1:1; a=z2 1:1; a=z 1:1", "cut 1", "append a=x 2:1; a=B b=w 2:1; c=~ 3:1", "cut 2", "append a=z 4:1; a=A 4:1; _9=! 4:1")
	for _, row := range []struct{ name, want string }{{"a", `["A" "B" "x" "xy" "z" "z2"]`}, {"b", `["w" "y"]`}, {"c", `["~"]`}, {"_9", `["!"]`}, {"none", "[]"}, {"A", "[]"}, {strings.Repeat("n", 24), "[]"}} {
		for range 2 {
			l, err := r.s.Values(row.name)
			wantText(t, "Values of "+row.name, fmt.Sprintf("%q", l)+told(err), row.want)
			r.start(t, -1)
		}
	}
	for _, line := range []string{"delete b=w 2 2", "delete b=y 1 1"} { // a series without samples is none
		wantDo(t, r, line, "")
	}
	l, err := r.s.Values("b")
	wantText(t, "Values of what is gone", fmt.Sprintf("%q", l)+told(err), "[]")
}

// 13.3: Values of a name that all series say, or none, in the Head alone, in a block alone.
func TestValuesWhere(t *testing.T) {
	r := began(t)
	for _, row := range [][2]string{{"append a=x 1:1", `["x"]`}, {"cut 1", `["x"]`}, {"append a=y 2:1", `["x" "y"]`}, {"retain 1", `["y"]`}, {"delete 2 2", `[]`}} {
		r.do(t, does(row[0]))
		l, err := r.s.Values("a")
		wantText(t, "Values behind "+row[0], fmt.Sprintf("%q", l)+told(err), row[1])
	}
}

// 13.3: Values: ErrArg, unless it is a name, and nothing else.
func TestValuesWrong(t *testing.T) {
	for _, lines := range [][]string{nil, spread} {
		r := began(t, lines...)
		for _, name := range []string{"", "1", "1a", "a b", "a-b", " a", "a ", "ä", "\x00", "a\n", `"a"`, strings.Repeat("n", 25)} {
			if l, err := r.s.Values(name); l != nil || told(err) != "error 1" {
				t.Errorf("Values of %q: %q, %v", name, l, err)
			}
		}
	}
}

// questions are asked of Stores that are to be the same.
func questions(t *testing.T) (l []*api.Ask) {
	for _, s := range []string{"{}", `sum({a="x"}[20])`, "total(count({}[50])) by (a, b)", `most({b^="x"}) - least(min({}[9]))`, "delta({}[30]) * 2 / max({}[30])", "many({}) by (ab)"} {
		l = append(l, parse(t, s))
	}
	return l
}

// answers are all that a Store tells of its series, near a time.
func answers(t *testing.T, s *store.Store, at int64) string {
	t.Helper()
	var b strings.Builder
	for _, m := range []string{"", "a=x", "a!=x b^x", "ab!^x"} {
		l, err := s.Select(match(m), at-30, at+30)
		fmt.Fprintln(&b, text(l), told(err), rolled(s.Rollup(match(m), at-30, at+5, 7)))
	}
	for _, q := range questions(t) {
		fmt.Fprintln(&b, said(s.Query(q, at)))
	}
	for _, name := range names {
		l, err := s.Values(name)
		fmt.Fprintf(&b, "%q %v\n", l, err)
	}
	return b.String()
}

// The whole, 5: put away, or put together, it is the same: of two Stores to which the same comes, and of which the same is taken out, one of them puts it away, and together, here and there, and is opened anew.
func TestTheSame(t *testing.T) {
	for seed := range uint64(60) {
		rnd := drawn(seed + 2000)
		plain, busy := began(t), began(t)
		near := rnd.Int64N(20) - 10
		for range 25 {
			o := anyOp(rnd, near)
			for o.word != "append" && o.word != "delete" {
				o = anyOp(rnd, near)
			}
			if o.word == "append" { // nothing is below what is put away
				o.series = slices.DeleteFunc(o.series, func(x api.Series) bool { return len(x.Samples) == 0 || x.Samples[0].Time <= busy.s.Mark() })
			}
			one := o.do(plain.s)
			wantText(t, fmt.Sprint(o), busy.do(t, o), one)
			switch rnd.IntN(6) {
			case 0, 1:
				busy.do(t, op{word: "cut", time: near + rnd.Int64N(6) - 4})
			case 2:
				busy.do(t, op{word: "compact"})
			case 3:
				busy.start(t, -1)
			}
			near += rnd.Int64N(7)
			if got, want := answers(t, busy.s, near), answers(t, plain.s, near); got != want {
				t.Fatalf("%s: %s, not %s", strings.Join(busy.what, " / "), got, want)
			}
		}
	}
}

// The whole, 5: what is taken out is gone, and nothing else, also when it is put away, put together, and opened anew.
func TestGoneAndNothingElse(t *testing.T) {
	for seed := range uint64(60) {
		rnd := drawn(seed + 3000)
		r := began(t)
		near := rnd.Int64N(20)
		for range 12 {
			r.do(t, anyOp(rnd, near))
			near += rnd.Int64N(6)
		}
		was, _ := r.s.Select(nil, least, greatest)
		g := api.Gone{Match: anyMatch(rnd), From: near - rnd.Int64N(40)}
		g.To = g.From + rnd.Int64N(30)
		var want []api.Series
		for _, x := range was {
			left := api.Series{Labels: x.Labels}
			for _, s := range x.Samples {
				if !label.All(x.Labels, g.Match) || s.Time < g.From || s.Time > g.To {
					left.Samples = append(left.Samples, s)
				}
			}
			if left.Samples != nil {
				want = append(want, left)
			}
		}
		r.do(t, op{word: "delete", gone: g})
		wantText(t, "behind Delete", all(t, r.s), text(want))
		for _, line := range []string{fmt.Sprint("cut ", near), "compact", fmt.Sprint("cut ", api.MaxTime), "compact"} {
			r.start(t, -1)
			wantText(t, "opened anew", all(t, r.s), text(want))
			r.do(t, does(line))
			wantText(t, "behind "+line, all(t, r.s), text(want))
		}
	}
}

// roomy is a list with room behind its length, in which something stands.
func roomy[T any](l []T, behind T) []T {
	out := append(make([]T, 0, len(l)+3), l...)
	whole := out[:cap(out)]
	for i := len(l); i < cap(out); i++ {
		whole[i] = behind
	}
	return out
}

func roomySeries(l []api.Series) []api.Series {
	var out []api.Series
	for _, x := range l {
		out = append(out, api.Series{Labels: roomy(x.Labels, api.Label{Name: "behind", Value: "b"}), Samples: roomy(x.Samples, api.Sample{Time: 77, Value: 78})})
	}
	return roomy(out, api.Series{})
}

// laid is all that lies in series' memory, up to what room they have.
func laid(l []api.Series) string {
	var b strings.Builder
	for _, x := range l[:cap(l)] {
		fmt.Fprint(&b, x.Labels[:cap(x.Labels)], len(x.Labels), x.Samples[:cap(x.Samples)], len(x.Samples), ";")
	}
	return b.String()
}

// overwrite writes into a list, also behind its length.
func overwrite[T any](l []T, by T) {
	for i := range l[:cap(l)] {
		l[:cap(l)][i] = by
	}
}

func spoil(l []api.Series) {
	for _, x := range l[:cap(l)] {
		overwrite(x.Labels, api.Label{Name: "spoilt", Value: "s"})
		overwrite(x.Samples, api.Sample{Time: -99, Value: -99})
	}
	overwrite(l, api.Series{})
}

// P4: no list that is handed in is written into, or kept, nor what stands behind its length.
func TestHandedIn(t *testing.T) {
	r := began(t)
	for _, line := range slices.Concat(spread, []string{"delete a=x b= 3 4", "append a=x b=y 12:1", "cut 9", "append a=x b=y 14:1", "delete b=y 9 9", "compact"}) {
		o := does(line)
		o.series = roomySeries(o.series)
		o.gone.Match = roomy(o.gone.Match, api.Matcher{Name: "behind"})
		before := laid(o.series) + fmt.Sprint(o.gone.Match[:cap(o.gone.Match)])
		wantText(t, line, o.do(r.s), "")
		wantText(t, "handed in to "+line, laid(o.series)+fmt.Sprint(o.gone.Match[:cap(o.gone.Match)]), before)
		was := look(r.s)
		spoil(o.series)
		overwrite(o.gone.Match, api.Matcher{Name: "spoilt"})
		wantText(t, "spoilt behind "+line, look(r.s), was)
		wantText(t, "spoilt behind "+line+", opened anew", look(opened(t, r.d)), was)
		m := roomy(match("a=x b!=z"), api.Matcher{Name: "behind"})
		before = fmt.Sprint(m[:cap(m)])
		_, _ = r.s.Select(m, 0, 9)
		_, _ = r.s.Rollup(m, 0, 9, 3)
		_, _, _ = r.s.Query(&api.Ask{Code: api.Sum, Match: m, Span: 9}, 9)
		wantText(t, "matchers", fmt.Sprint(m[:cap(m)]), before)
	}
	for _, line := range []string{"cut 13", "compact", "cut 20"} { // nor when what is kept is written once more
		wantText(t, line, does(line).do(r.s), "")
		wantText(t, "behind "+line, look(opened(t, r.d)), look(r.s))
	}
}

// P4: what comes out is fresh memory: written into, it changes nothing of the Store, nor what was told before.
func TestFresh(t *testing.T) {
	r := began(t, slices.Concat(spread, []string{"delete a=x 3 3"})...)
	was := look(r.s) + answers(t, r.s, 9)
	numbers, to := r.s.Blocks()
	overwrite(numbers, 99)
	overwrite(to, 99)
	values, _ := r.s.Values("a")
	overwrite(values, "spoilt")
	kept, _ := r.s.Select(nil, least, greatest)
	before := text(kept)
	for range 2 {
		l, _ := r.s.Select(nil, least, greatest)
		spoil(l)
		buckets, _ := r.s.Rollup(nil, least, greatest, 2)
		for _, x := range buckets {
			overwrite(x.Labels, api.Label{Name: "spoilt"})
			overwrite(x.Buckets, api.Bucket{Start: 99})
		}
		points, _, _ := r.s.Query(parse(t, "sum({}[20])"), 9)
		for _, p := range points {
			overwrite(p.Labels, api.Label{Name: "spoilt"})
		}
		wantText(t, "spoilt", look(r.s)+answers(t, r.s, 9), was)
		wantText(t, "told before", text(kept), before)
		r.start(t, -1)
	}
	for i := range kept { // and no two lists share any
		one := slices.Clone(kept)
		overwrite(kept[i].Labels, api.Label{Name: "spoilt"})
		for j := range one {
			if j > i && text(one[j:j+1]) != strings.Split(before, "; ")[j] {
				t.Errorf("the labels of %d and %d share memory", i, j)
			}
		}
	}
}

// P4: what a Store has hangs on nothing but its calls: two over two disks have nothing to do with each other.
func TestApart(t *testing.T) {
	one, two := began(t), began(t)
	for _, row := range script() {
		one.do(t, does(row[0]))
		wantText(t, "the other one", look(two.s), newModel().look())
	}
	r, _ := one.s.Blocks()
	if len(r) > 0 {
		t.Error("the script leaves blocks")
	}
}

// P1: no Store, and one that is over no disk, is Down, and has nothing; nothing panics.
func TestNone(t *testing.T) {
	for _, s := range []*store.Store{nil, {}} {
		if !s.Down() {
			t.Error("no Store is not Down")
		}
		wantText(t, "no Store", look(s), newModel().look())
		for _, line := range slices.Concat(changes, wrongs, idles) {
			wantText(t, line, does(line).do(s), does(line).state())
		}
		wantText(t, "Query", said(s.Query(parse(t, "total({}) + 1"), 9)), "points")
		wantText(t, "Query", said(s.Query(parse(t, "1"), 9)), "alone {} 1")
		wantText(t, "Rollup", rolled(s.Rollup(nil, 0, 9, 1)), "")
		if _, err := s.Select(match("1=x"), 0, 9); told(err) != "error 1" {
			t.Errorf("Select: %v", err)
		}
	}
}

// 12.1, 13.3: Select may be a Source.
func TestSource(t *testing.T) {
	s := opened(t, &disk.Disk{})
	var src eval.Source = s.Select
	if l, err := src(nil, 0, 1); len(l) > 0 || err != nil {
		t.Errorf("a Source tells %v, %v", l, err)
	}
}
