package index_test

import (
	"errors"
	"math"
	"slices"
	"strings"
	"testing"

	"raingauge/api"
	"raingauge/index"
)

// The heads of the chapter's functions.
var (
	_ func([][]api.Label) (*index.Index, error)            = index.New
	_ func(*index.Index) []string                          = (*index.Index).Names
	_ func(*index.Index, string) []string                  = (*index.Index).Values
	_ func(*index.Index, []api.Matcher) (l []int, _ error) = (*index.Index).Match
	_ func(a, b []int) []int                               = index.And
	_ func(a, b []int) []int                               = index.Or
	_ func(a, b []int) []int                               = index.Not
)

// wrong are labels that may not be a series', each for another reason.
func wrong() [][]api.Label {
	nine := series("a=v b=v c=v d=v e=v f=v g=v h=v i=v")[0]
	return append(series("", "a=", "=x", "1=x", "b=x a=x", "a=x a=x", "a=x a=y", "a=x b=", `a="`, `a=\`, "a-b=x", "a=ä"), nine,
		[]api.Label{}, labels("a="+strings.Repeat("v", 25)), labels(strings.Repeat("n", 25)+"=v"))
}

// 5.1: New of no series, of one, of many, of the same labels twice.
func TestNew(t *testing.T) {
	for _, l := range [][][]api.Label{
		nil, {}, series("a=x"), series("a=x", "a=x"), series("a=x b=y", "job=z"), series("a=v b=v c=v d=v e=v f=v g=v h=v"),
		slices.Repeat(series("a=x", "b=x", "a=x b=y"), 100),
	} {
		got := match(t, made(t, l), nil)
		if len(got) != len(l) {
			t.Errorf("of %d series there are %d", len(l), len(got))
		}
		for number, other := range got {
			if number != other {
				t.Errorf("series %d has the number %d", number, other)
			}
		}
	}
}

// 5.1: New of labels that are not Right: there is no index, and the error's place is the first of them.
func TestNewWrong(t *testing.T) {
	right := series("a=x", "a=x b=y", "job=z", "a=x")
	check := func(l [][]api.Label, place int) {
		t.Helper()
		x, err := index.New(l)
		if x != nil {
			t.Errorf("New(%q) is an index", l)
		}
		wantAt(t, err, place)
	}
	for _, one := range wrong() {
		for place := range len(right) + 1 {
			check(slices.Insert(slices.Clone(right), place, one), place)
			for _, other := range wrong() {
				check(slices.Concat(right[:place], [][]api.Label{one}, right, [][]api.Label{other, one}), place)
			}
		}
		check([][]api.Label{one}, 0)
		check([][]api.Label{one, one}, 0)
	}
}

// 5.1: Names in order, each once; Values of a name that all, some or none say.
func TestNamesAndValues(t *testing.T) {
	for _, c := range []struct {
		l     [][]api.Label
		names string
		a, b  string
	}{
		{nil, "", "", ""},
		{series("a=x"), "a", "x", ""},
		{series("a=x", "a=x"), "a", "x", ""},
		{series("a=x", "b=y"), "a b", "x", "y"},
		{series("b=y", "a=x"), "a b", "x", "y"},
		{series("job=z", "b=y job=x", "a=x b=x"), "a b job", "x", "x y"},
		{series("a=y", "a=x", "a=xy", "a=y", "a=X", "a=~", "a=10", "a=9"), "a", "10 9 X x xy y ~", ""},
		{series("b=1", "_=1", "a=1", "aa=1", "Z=1", "a0=1", "aZ=1", "A=1 a_=1"), "A Z _ a a0 aZ a_ aa b", "1", "1"},
		{series("none=z", "zero=y"), "none zero", "", ""},
		{series("a=b", "a=a b=a"), "a b", "a b", "a"},
	} {
		x := made(t, c.l)
		wantList(t, "Names", x.Names(), strings.Fields(c.names))
		wantList(t, "Values of a", x.Values("a"), strings.Fields(c.a))
		wantList(t, "Values of b", x.Values("b"), strings.Fields(c.b))
		for _, none := range []string{"", "no", "x", "y", "\xff", "a=", "a ", strings.Repeat("a", 99)} {
			wantList(t, "Values of a name that is none", x.Values(none), nil)
		}
	}
}

// 5.1: Values of each byte that may be said.
func TestValuesOfEachByte(t *testing.T) {
	var l [][]api.Label
	var want []string
	for c := 32; c < 127; c++ {
		if s := string(rune(c)); s != `"` && s != `\` {
			want = append(want, s, s+" ")
			l = append(l, []api.Label{{Name: "a", Value: s + " "}}, []api.Label{{Name: "a", Value: s}})
		}
	}
	slices.Reverse(l)
	wantList(t, "Values", made(t, l).Values("a"), want)
}

// 5.1: Match of no matcher, of each Op, of names that all, some or no series has, of the empty text, of several.
func TestMatch(t *testing.T) {
	x := made(t, series("a=x", "a=xy b=y", "b=y", "a=x job=z", "a=x", "a=y b=yx job=z"))
	for _, c := range []struct{ asked, want string }{
		{"", "012345"},
		{"a=x", "0..34."}, {"a!=x", ".12..5"}, {"a^x", "01.34."}, {"a!^x", "..2..5"},
		{"a=", "..2..."}, {"a!=", "01.345"}, {"a^", "012345"}, {"a!^", "......"},
		{"b=y", ".12..."}, {"b!=y", "0..345"}, {"b^y", ".12..5"}, {"b!^y", "0..34."},
		{"b=", "0..34."}, {"b!=", ".12..5"}, {"b^", "012345"}, {"b!^", "......"},
		{"job=z", "...3.5"}, {"job!=z", "012.4."}, {"job=", "012.4."}, {"job!=", "...3.5"},
		{"none=", "012345"}, {"none!=", "......"}, {"none^", "012345"}, {"none!^", "......"},
		{"none=x", "......"}, {"none!=x", "012345"}, {"none^x", "......"}, {"none!^x", "012345"},
		{"a=none", "......"}, {"a!=none", "012345"}, {"a^xyz", "......"}, {"a!^xyz", "012345"}, {"a^xy", ".1...."}, {"a!^xy", "0.2345"}, {"a=X", "......"}, {"A=x", "......"},
		{"a=x job=z", "...3.."}, {"job=z a=x", "...3.."}, {"a=x job=", "0...4."}, {"a=x a=x", "0..34."}, {"a=x a!=x", "......"}, {"a=x a=y", "......"},
		{"a^x b=y", ".1...."}, {"a= b=", "......"}, {"a^ b^ job^ none^", "012345"}, {"a!=x b!= job=z none!=x", ".....5"}, {"a!=xy a!=y a!=", "0..34."},
		{"a=x a=x a=x a=x a=x a=x a=x a=x", "0..34."}, {"a!=x a!= b=y a=x", "......"},
	} {
		wantList(t, "Match of "+c.asked, match(t, x, matchers(c.asked)), numbers(c.want))
	}
	none := made(t, nil)
	for _, asked := range []string{"", "a=x", "a!=x", "a=", "a^", "a!^x"} {
		wantList(t, "Match among no series of "+asked, match(t, none, matchers(asked)), nil)
	}
}

// 5.1: the same labels twice are two series.
func TestMatchTwice(t *testing.T) {
	x := made(t, series("a=x b=y", "a=y", "a=x b=y", "a=y", "a=x b=y"))
	wantList(t, "those of x", match(t, x, matchers("a=x")), numbers("0.2.4"))
	wantList(t, "those of y", match(t, x, matchers("a=y")), numbers(".1.3."))
	wantList(t, "those without b", match(t, x, matchers("b=")), numbers(".1.3."))
}

// 5.1: matchers that are not Asked are ErrArg, alone and among others, whatever the series are; the index stays as it is.
func TestMatchWrong(t *testing.T) {
	long := strings.Repeat("n", 25)
	right := matchers("a=x b!=y c^z")
	for _, l := range [][][]api.Label{nil, series("a=x"), series("a=x b=y", "job=z")} {
		x := made(t, l)
		check := func(m []api.Matcher) {
			t.Helper()
			got, err := x.Match(m)
			var at *api.At
			if got != nil || api.Tell(err) != api.ErrArg || errors.As(err, &at) {
				t.Errorf("Match(%+v) is %v, %v", m, got, err)
			}
		}
		for _, m := range []api.Matcher{
			{}, {Value: "x"}, {Name: "1"}, {Name: "a-b"}, {Name: long}, {Name: "a", Op: -1}, {Name: "a", Op: 4}, {Name: "a", Op: math.MinInt}, {Name: "a", Op: math.MaxInt, Value: "x"},
			{Name: "a", Value: long}, {Name: "a", Value: `"`}, {Name: "a", Value: "\x7f"}, {Name: "a", Op: api.BeginsNot, Value: "\x00"}, {Name: "none", Op: api.Begins, Value: "\xff"},
		} {
			for place := range len(right) + 1 {
				check(slices.Insert(slices.Clone(right), place, m))
			}
			check([]api.Matcher{m})
		}
		check(slices.Repeat(right, 3))
		check(slices.Repeat(matchers("none="), 9))
		wantList(t, "all", match(t, x, nil), matchModel(l, nil))
	}
}

// 5.1: Names, Values and Match of any series; what is asked together is asked together, and not is not.
func TestAny(t *testing.T) {
	r := drawn(1)
	for range 3000 {
		l := anySeries(r, 12)
		x := made(t, l)
		wantList(t, "Names", x.Names(), namesModel(l))
		for _, name := range []string{"A", "_", "a", "ab", "b", "job", "none", ""} {
			wantList(t, "Values of "+name, x.Values(name), valuesModel(l, name))
		}
		a, b := anyMatchers(r, 4), anyMatchers(r, 4)
		ofA, ofB := match(t, x, a), match(t, x, b)
		wantList(t, "Match", ofA, matchModel(l, a))
		wantList(t, "Match of both", match(t, x, slices.Concat(a, b)), index.And(ofA, ofB))
		for _, m := range a {
			not := m
			not.Op = m.Op ^ 1
			wantList(t, "Match of what is not so", match(t, x, []api.Matcher{not}), index.Not(match(t, x, nil), match(t, x, []api.Matcher{m})))
		}
	}
}

func checkTogether(t *testing.T, a, b, and, or, not []int) {
	t.Helper()
	wantList(t, "And", index.And(a, b), and)
	wantList(t, "Or", index.Or(a, b), or)
	wantList(t, "Not", index.Not(a, b), not)
}

// 5.1: And, Or, Not of empty lists, of the same, of lists that share nothing or some, of one within the other.
func TestTogether(t *testing.T) {
	for _, c := range []struct{ a, b, and, or, not, ton string }{
		{"", "", "", "", "", ""},
		{"0", "", "", "0", "0", ""},
		{"01.3", "", "", "01.3", "01.3", ""},
		{"0", "0", "0", "0", "", ""},
		{"01.3", "01.3", "01.3", "01.3", "", ""},
		{"0", ".1", "", "01", "0", ".1"},
		{"0.2.4", ".1.3.5", "", "012345", "0.2.4", ".1.3.5"},
		{"012", "...345", "", "012345", "012", "...345"},
		{"012.", "..234", "..2", "01234", "01", "...34"},
		{".1.34...89", "0..3.56..9", "...3.....9", "01.3456.89", ".1..4...8", "0....56"},
		{"012345", "..23", "..23", "012345", "01..45", ""},
		{"012345", "0", "0", "012345", ".12345", ""},
		{"012345", ".....5", ".....5", "012345", "01234", ""},
		{"012345", "0....5", "0....5", "012345", ".1234", ""},
	} {
		a, b := numbers(c.a), numbers(c.b)
		checkTogether(t, a, b, numbers(c.and), numbers(c.or), numbers(c.not))
		checkTogether(t, b, a, numbers(c.and), numbers(c.or), numbers(c.ton))
	}
	checkTogether(t, []int{}, []int{}, nil, nil, nil)
	checkTogether(t, []int{math.MinInt, -1, 0, math.MaxInt}, []int{-1, math.MaxInt}, []int{-1, math.MaxInt}, []int{math.MinInt, -1, 0, math.MaxInt}, []int{math.MinInt, 0})
	checkTogether(t, []int{-1}, []int{math.MinInt, math.MaxInt}, nil, []int{math.MinInt, -1, math.MaxInt}, []int{-1})
}

// 5.1: And, Or, Not of all lists of numbers below six.
func TestTogetherOfAll(t *testing.T) {
	of := func(set int) (out []int) {
		for n := range 6 {
			if set>>n&1 == 1 {
				out = append(out, n)
			}
		}
		return out
	}
	for a := range 64 {
		for b := range 64 {
			checkTogether(t, of(a), of(b), of(a&b), of(a|b), of(a&^b))
		}
	}
}

// P4: New and Match keep nothing of what they are given, and write nothing into it, nor behind its length.
func TestNothingIsKept(t *testing.T) {
	room := [][]api.Label{labels("a=x b=y c=z")[:2], labels("a=y"), labels("z=z")}
	asked := matchers("a=x b!= none=x")
	wasRoom := [][]api.Label{labels("a=x b=y c=z"), labels("a=y"), labels("z=z")}
	x := made(t, room[:2])
	wantList(t, "Match", match(t, x, asked[:2]), []int{0})
	for number, one := range wasRoom {
		wantList(t, "what was handed in", room[number][:len(one)], one)
	}
	wantList(t, "what was asked", asked, matchers("a=x b!= none=x"))
	room[0][0], room[0][1], room[1] = api.Label{Name: "q", Value: "q"}, api.Label{}, nil
	asked[0] = api.Matcher{Name: "b"}
	wantList(t, "Names", x.Names(), []string{"a", "b"})
	wantList(t, "Values", x.Values("a"), []string{"x", "y"})
	wantList(t, "Match", match(t, x, matchers("a=y")), []int{1})
	wantList(t, "Match", match(t, x, matchers("q=q")), nil)
}

// P4: what comes out is fresh memory: changed by the caller, it changes no later answer.
func TestFresh(t *testing.T) {
	x := made(t, series("a=x", "a=y b=x", "a=x b=z", "b=x"))
	for range 3 {
		names, values := x.Names(), x.Values("a")
		wantList(t, "Names", names, []string{"a", "b"})
		wantList(t, "Values", values, []string{"x", "y"})
		for _, c := range []struct{ asked, want string }{{"", "0123"}, {"a=x", "0.2."}, {"a^", "0123"}, {"a=", "...3"}, {"none=", "0123"}, {"a!=y b!=z", "0..3"}} {
			got, other := match(t, x, matchers(c.asked)), match(t, x, matchers(c.asked))
			for i := range got[:cap(got)] {
				got[:cap(got)][i] = 99
			}
			wantList(t, "Match of "+c.asked, other, numbers(c.want))
		}
		names[0], values[1] = "changed", "changed"
		_ = append(names, "changed")
		_ = append(values, "changed")
	}
}

// P4: And, Or and Not write into nothing, and share no memory with what they are given.
func TestTogetherFresh(t *testing.T) {
	rooms := [][]int{{1, 2, 3, 77}, {2, 3, 4, 88}, {5, 66}, {99}}
	for i, a := range rooms {
		for j, b := range rooms {
			wasA, wasB := slices.Clone(a), slices.Clone(b)
			for name, f := range map[string]func(a, b []int) []int{"And": index.And, "Or": index.Or, "Not": index.Not} {
				got := f(a[:len(a)-1], b[:len(b)-1])
				for n := range got[:cap(got)] {
					got[:cap(got)][n] = -1
				}
				if !slices.Equal(a, wasA) || !slices.Equal(b, wasB) {
					t.Fatalf("%s of %d and %d shares memory: %v, %v", name, i, j, a, b)
				}
			}
		}
	}
}

// P1: lists that do not rise still end, and where there is no index, there are no series.
func TestWhatMayNotBeEnds(t *testing.T) {
	r := drawn(2)
	for range 2000 {
		a, b := make([]int, r.IntN(6)), make([]int, r.IntN(6))
		for i := range a {
			a[i] = r.IntN(4) - 1
		}
		for i := range b {
			b[i] = r.IntN(4) - 1
		}
		if got := len(index.And(a, b)) + len(index.Or(a, b)) + len(index.Not(a, b)); got > 3*(len(a)+len(b)) {
			t.Errorf("of %v and %v come %d numbers", a, b, got)
		}
	}
	var none *index.Index
	for _, x := range []*index.Index{none, {}} {
		wantList(t, "Names", x.Names(), nil)
		wantList(t, "Values", x.Values("a"), nil)
		wantList(t, "Match", match(t, x, matchers("a=")), nil)
		if _, err := x.Match(matchers("1=x")); api.Tell(err) != api.ErrArg {
			t.Errorf("Match of no name is %v", err)
		}
	}
}
