package label_test

import (
	"math"
	"slices"
	"strings"
	"testing"

	"raingauge/api"
	"raingauge/label"
)

// The heads of the chapter's functions.
var (
	_ func(string) bool                         = label.Name
	_ func([]api.Label) bool                    = label.Right
	_ func([]api.Label, string) string          = label.Get
	_ func([]api.Label, []api.Label) int        = label.Compare
	_ func([]api.Label) string                  = label.Text
	_ func([]api.Label, []string) []api.Label   = label.Only
	_ func([]api.Matcher) bool                  = label.Asked
	_ func([]api.Label, api.Matcher) bool       = label.One
	_ func([]api.Label, []api.Matcher) (b bool) = label.All
)

func wantSaid(t *testing.T, what string, of any, got, want bool) {
	t.Helper()
	if got != want {
		t.Errorf("%s(%+q) is %v", what, of, got)
	}
}

func checkName(t *testing.T, s string, want bool) {
	t.Helper()
	wantSaid(t, "Name", s, label.Name(s), want)
}

// 4.1: Name, at each edge of its length and of its letters.
func TestName(t *testing.T) {
	for _, s := range []string{
		"a", "z", "A", "Z", "_", "m", "M", "ab", "aB", "a0", "a9", "A5", "_0", "_9", "__", "a_", "a_b", "_a", "job", "a1b2", "Zz_09",
		strings.Repeat("n", 23), strings.Repeat("n", 24), "_" + strings.Repeat("9", 23),
	} {
		checkName(t, s, true)
	}
	for _, s := range []string{
		"", "0", "9", "5", "0a", "9a", "1_", "01", strings.Repeat("n", 25), strings.Repeat("n", 26), strings.Repeat("n", 1000), strings.Repeat("0", 24),
		"@", "[", "`", "{", "/", ":", "a@", "a[", "a`", "a{", "a/", "a:", "a@b", "a-b", "a b", " a", "a ", "-", "^", "a^", "a.b", "\x00", "a\x00", "a\n",
		"\x7f", "\x80", "\xff", "a\x7f", "a\x80", "a\xc1", "a\xe1", "\xc1", "\xe1", "\xdf", "a\xff", "ä", "aé", "a\xb0", "１", "a１", "ａ",
	} {
		checkName(t, s, false)
	}
}

// 4.1: Name of each byte, first, behind, and last of all that may be.
func TestNameOfEachByte(t *testing.T) {
	long := strings.Repeat("x", api.MaxLetters-1)
	for c := range 256 {
		s := string([]byte{byte(c)})
		for _, text := range []string{s, "a" + s, s + "a", "_" + s + "_", long + s, s + long, "x" + long + s} {
			checkName(t, text, namePattern.MatchString(text))
		}
	}
}

func checkRight(t *testing.T, l []api.Label, want bool) {
	t.Helper()
	wantSaid(t, "Right", l, label.Right(l), want)
}

// 4.1: Right, at each edge.
func TestRight(t *testing.T) {
	v24 := strings.Repeat("v", 24)
	for _, l := range [][]api.Label{
		said("a", "x"), said("a", "x", "b", "x"), said("a", "x", "b", "y", "job", "z"), said("a", "x", "aa", "x"), said("A", "x", "_", "x", "a", "x"),
		said("a", " "), said("a", "~"), said("a", "!"), said("a", "#"), said("a", "["), said("a", "]"), said("a", "0"), said("a", "a b"), said("a", "{a=x,}"),
		said("a", v24), said("a", v24[1:]), said(strings.Repeat("n", 24), v24), said("a", "z", "b", "y", "c", "x"),
		said("Z", "x", "a", "x"), said("a0", "x", "a1", "x", "aA", "x", "a_", "x", "aa", "x"), many(7), many(8),
	} {
		checkRight(t, l, true)
	}
	for _, l := range [][]api.Label{
		nil, {}, many(9), many(20), said("a", ""), said("a", "x", "b", ""), said("a", "", "b", "x"), said("", "x"), said("", ""), said("1", "x"), said("a-b", "x"),
		said("a", "x", "1", "x"), said("0", "x", "a", "x"), said("b", "x", "a", "x"), said("a", "x", "a", "x"), said("a", "x", "a", "y"), said("a", "y", "a", "x"),
		said("aa", "x", "a", "x"), said("a", "x", "c", "x", "b", "x"), said("a", "x", "b", "x", "a", "x"), said("b", "x", "a", "x", "c", "x"), said("a", "x", "B", "x"),
		said("a", "x", "b", "x", "b", "y"), said("a", v24+"v"), said("a", v24+v24), said(strings.Repeat("n", 25), "x"), said("a", "x", "b", v24+"v"),
		said("a", "\x1f"), said("a", "\x7f"), said("a", "\""), said("a", "\\"), said("a", "x\""), said("a", "x\\"), said("a", "\x00"), said("a", "\n"), said("a", "\t"),
		said("a", "\x80"), said("a", "\xa0"), said("a", "\xff"), said("a", "ä"), said("a", "x", "b", "\""), said("a", "\"", "b", "x"),
		append(many(7), api.Label{Name: "z", Value: ""}), append(many(7), api.Label{Name: "a", Value: "v"}),
	} {
		checkRight(t, l, false)
	}
}

// 4.1: Right of each byte as what is said, alone, behind, ahead, and last of all that may be.
func TestRightOfEachByte(t *testing.T) {
	long := strings.Repeat("x", api.MaxLetters-1)
	for c := range 256 {
		s := string([]byte{byte(c)})
		for _, text := range []string{s, "a" + s, s + "a", long + s, s + long, "x" + long + s} {
			checkRight(t, said("a", text), valuePattern.MatchString(text))
			checkRight(t, said("a", "x", "b", text), valuePattern.MatchString(text))
			checkRight(t, said("a", text, "b", "x"), valuePattern.MatchString(text))
			checkRight(t, said(text, "x"), namePattern.MatchString(text))
		}
	}
}

// 4.1: Right of labels of any kind.
func TestRightAny(t *testing.T) {
	r := drawn(1)
	seen := map[bool]int{}
	for range 20000 {
		for _, l := range [][]api.Label{anyLabels(r, 3, 3), rising(r), anyLabels(r, 1, 27)} {
			want := rightModel(l)
			seen[want]++
			checkRight(t, l, want)
		}
	}
	if seen[true] < 1000 || seen[false] < 1000 {
		t.Errorf("hardly any of one kind: %v", seen)
	}
}

// 4.1: Get of a name that is there, is not, is there twice, and of no label.
func TestGet(t *testing.T) {
	for _, c := range []struct {
		l          []api.Label
		name, want string
	}{
		{nil, "a", ""}, {nil, "", ""}, {said("a", "x"), "a", "x"}, {said("a", "x"), "b", ""}, {said("a", "x"), "", ""}, {said("a", "x"), "A", ""},
		{said("a", "x"), "aa", ""}, {said("aa", "x"), "a", ""}, {said("a", "x", "b", "y", "job", "z"), "a", "x"}, {said("a", "x", "b", "y", "job", "z"), "b", "y"},
		{said("a", "x", "b", "y", "job", "z"), "job", "z"}, {said("a", "x", "b", "y", "job", "z"), "jo", ""}, {said("a", "x", "a", "y"), "a", "x"},
		{said("b", "x", "a", "y", "a", "z"), "a", "y"}, {said("a", "", "a", "y"), "a", ""}, {said("", "x"), "", "x"}, {said("1-", "\xff"), "1-", "\xff"},
		{said("a", "x"), "x", ""}, {said("a", strings.Repeat("v", 99)), "a", strings.Repeat("v", 99)},
	} {
		if got := label.Get(c.l, c.name); got != c.want {
			t.Errorf("Get(%q, %q) is %q, not %q", c.l, c.name, got, c.want)
		}
	}
}

func sign(n int) int { return min(max(n, -1), 1) }

// 4.1: Compare of lists that rise, each of them with each other one, either way round.
func TestCompare(t *testing.T) {
	row := [][]api.Label{
		nil,
		said("", ""), said("", "\x00"), said("", "z"),
		said("A", "x"), said("Z", "x"), said("_", "x"),
		said("a", ""), said("a", "", "b", ""), said("a", "\x00"), said("a", "A"), said("a", "a"),
		said("a", "x"), said("a", "x", "", ""), said("a", "x", "a", "x"), said("a", "x", "b", "x"), said("a", "x", "b", "x", "c", "x"), said("a", "x", "b", "xa"),
		said("a", "x", "b", "y"), said("a", "x", "ba", "a"), said("a", "x", "c", "a"),
		said("a", "x\x00"), said("a", "xy"), said("a", "y"), said("a", "~"), said("a", "\x7f"), said("a", "\x80"), said("a", "\xff"), said("a", "\xff\x00"),
		said("a\x00", ""), said("aa", "a"), said("ab", ""), said("b", "a"), said("\x80", ""), said("\xff", ""), said("\xff", "\xff"),
	}
	for i, a := range row {
		for j, b := range row {
			got := label.Compare(slices.Clone(a), slices.Clone(b))
			if sign(got) != sign(i-j) {
				t.Errorf("Compare(%q, %q) is %d", a, b, got)
			}
		}
	}
	if label.Compare(nil, []api.Label{}) != 0 || label.Compare([]api.Label{}, nil) != 0 {
		t.Error("no labels are not no labels")
	}
}

// 4.1: Compare of labels of any kind; they stand in a row.
func TestCompareAny(t *testing.T) {
	r := drawn(2)
	for range 30000 {
		a, b, c := anyLabels(r, 3, 2), anyLabels(r, 3, 2), anyLabels(r, 3, 2)
		if r.IntN(2) == 0 {
			b = append(slices.Clone(a[:r.IntN(len(a)+1)]), b...)
		}
		ab, ba, bc, ac := label.Compare(a, b), label.Compare(b, a), label.Compare(b, c), label.Compare(a, c)
		if sign(ab) != sign(compareModel(a, b)) || sign(ab) != -sign(ba) || (ab == 0) != slices.Equal(a, b) {
			t.Errorf("Compare(%q, %q) is %d, the other way round %d", a, b, ab, ba)
		}
		if ab <= 0 && bc <= 0 && ac > 0 || ab >= 0 && bc >= 0 && ac < 0 {
			t.Errorf("%q, %q and %q do not stand in a row", a, b, c)
		}
	}
}

// 4.1: Text of no label, of one, of several.
func TestText(t *testing.T) {
	for _, c := range []struct {
		l    []api.Label
		want string
	}{
		{nil, `{}`}, {[]api.Label{}, `{}`}, {said("a", "x"), `{a="x"}`}, {said("a", "x", "b", "y"), `{a="x",b="y"}`},
		{said("a", "x", "b", "a b", "job", "z1"), `{a="x",b="a b",job="z1"}`}, {said("b", "y", "a", "x"), `{b="y",a="x"}`}, {said("a", "x", "a", "x"), `{a="x",a="x"}`},
		{said("", ""), `{=""}`}, {said("a", ""), `{a=""}`}, {said("", "x"), `{="x"}`}, {said("a", "\"\\\xff"), "{a=\"\"\\\xff\"}"}, {said("a", ",="), `{a=",="}`},
		{many(8), `{na="v",nb="v",nc="v",nd="v",ne="v",nf="v",ng="v",nh="v"}`},
	} {
		if got := label.Text(c.l); got != c.want {
			t.Errorf("Text(%q) is %s, not %s", c.l, got, c.want)
		}
	}
	r := drawn(3)
	for range 2000 {
		if l := anyLabels(r, 10, 5); label.Text(l) != textModel(l) {
			t.Errorf("Text(%q) is %s", l, label.Text(l))
		}
	}
}

// 4.1: Only of no names, of names that are not there, that are told twice, of all, in the labels' order.
func TestOnly(t *testing.T) {
	three := said("a", "x", "b", "y", "job", "z")
	for _, c := range []struct {
		l     []api.Label
		names []string
		want  []api.Label
	}{
		{nil, nil, nil}, {nil, []string{"a"}, nil}, {three, nil, nil}, {three, []string{}, nil}, {three, []string{"none"}, nil}, {three, []string{"", "A", "jo", "aa"}, nil},
		{three, []string{"a"}, said("a", "x")}, {three, []string{"b"}, said("b", "y")}, {three, []string{"job"}, said("job", "z")}, {three, []string{"b", "none"}, said("b", "y")},
		{three, []string{"a", "a"}, said("a", "x")}, {three, []string{"job", "a", "job"}, said("a", "x", "job", "z")}, {three, []string{"a", "b", "job"}, three},
		{three, []string{"job", "b", "a"}, three}, {three, []string{"job", "none", "b", "", "a"}, three}, {said("b", "y", "a", "x"), []string{"a", "b"}, said("b", "y", "a", "x")},
		{said("a", "x", "b", "y", "a", "z"), []string{"a"}, said("a", "x", "a", "z")}, {said("", "x"), []string{""}, said("", "x")}, {said("a", "b"), []string{"b"}, nil},
	} {
		if got := label.Only(c.l, c.names); !slices.Equal(got, c.want) {
			t.Errorf("Only(%q, %q) is %q, not %q", c.l, c.names, got, c.want)
		}
	}
}

// P4: what is handed in stays as it is, also behind its length; what comes out is fresh memory.
func TestFresh(t *testing.T) {
	room := said("a", "x", "b", "y", "c", "z", "behind", "v")
	l := room[:3]
	names := []string{"c", "a", "b", "behind"}[:3]
	match := []api.Matcher{asks("a", api.Is, "x"), asks("b", api.IsNot, "x"), asks("c", api.Begins, "z")}[:2]
	wasRoom, wasNames, wasMatch := slices.Clone(room), slices.Clone(names[:4]), slices.Clone(match[:3])
	one, two := label.Only(l, names), label.Only(l, names)
	label.Right(l)
	label.Get(l, "b")
	label.Compare(l, one)
	label.Text(l)
	label.Asked(match)
	label.One(l, match[0])
	if !label.All(l, match) {
		t.Error("all hold, and All says no")
	}
	one[0].Value, one[1].Name = "changed", "changed"
	_ = append(one, api.Label{Name: "changed"})
	if !slices.Equal(room, wasRoom) || !slices.Equal(names[:4], wasNames) || !slices.Equal(match[:3], wasMatch) {
		t.Error("what was handed in was written into")
	}
	if !slices.Equal(two, wasRoom[:3]) {
		t.Error("two answers share memory")
	}
	room[0].Value, names[0] = "changed", "changed"
	if !slices.Equal(two, wasRoom[:3]) {
		t.Error("an answer shares memory with what was handed in")
	}
}

func checkAsked(t *testing.T, l []api.Matcher, want bool) {
	t.Helper()
	wantSaid(t, "Asked", l, label.Asked(l), want)
}

// 4.2: Asked, at each edge, alone and among others.
func TestAsked(t *testing.T) {
	v24 := strings.Repeat("v", 24)
	right := asks("a", api.Is, "x")
	among := func(m api.Matcher, want bool) {
		checkAsked(t, []api.Matcher{m}, want)
		checkAsked(t, []api.Matcher{m, right}, want)
		checkAsked(t, []api.Matcher{right, m}, want)
		checkAsked(t, append(slices.Repeat([]api.Matcher{right}, 7), m), want)
		checkAsked(t, append(slices.Repeat([]api.Matcher{right}, 8), m), false)
	}
	for _, m := range []api.Matcher{
		right, asks("a", api.IsNot, "x"), asks("a", api.Begins, "x"), asks("a", api.BeginsNot, "x"), asks("a", api.Is, ""), asks("a", api.BeginsNot, ""),
		asks("_", api.Is, " ~"), asks("A", api.Is, v24), asks(strings.Repeat("n", 24), api.Is, v24[1:]), asks("a9", api.Is, "!#[]"), asks("a", api.Is, "a,b=c"),
	} {
		among(m, true)
	}
	for _, m := range []api.Matcher{
		{}, asks("", api.Is, "x"), asks("", api.Is, ""), asks("1", api.Is, "x"), asks("a-b", api.Is, "x"), asks(strings.Repeat("n", 25), api.Is, "x"), asks("a\xff", api.Is, "x"),
		asks("a", -1, "x"), asks("a", 4, "x"), asks("a", 5, "x"), asks("a", -2, "x"), asks("a", math.MinInt, "x"), asks("a", math.MaxInt, "x"),
		asks("a", api.Is, v24+"v"), asks("a", api.Is, "\""), asks("a", api.Is, "\\"), asks("a", api.Is, "\x1f"), asks("a", api.Is, "\x7f"), asks("a", api.Is, "\x80"),
		asks("a", api.Is, "x\""), asks("a", api.Begins, "\n"), asks("a", api.BeginsNot, "\xff"), asks("a", api.IsNot, "ä"),
	} {
		among(m, false)
	}
	checkAsked(t, nil, true)
	checkAsked(t, []api.Matcher{}, true)
	for n := range 20 {
		checkAsked(t, slices.Repeat([]api.Matcher{right}, n), n <= api.MaxLabels)
	}
}

// 4.2: Asked of each byte in a name and in a value, and of matchers of any kind.
func TestAskedAny(t *testing.T) {
	long := strings.Repeat("x", api.MaxLetters-1)
	for c := range 256 {
		s := string([]byte{byte(c)})
		for _, text := range []string{s, "a" + s, s + "a", long + s, "x" + long + s} {
			checkAsked(t, []api.Matcher{asks("a", api.Is, text)}, valuePattern.MatchString(text))
			checkAsked(t, []api.Matcher{asks(text, api.Is, "x")}, namePattern.MatchString(text))
		}
	}
	r := drawn(4)
	for range 20000 {
		l := anyMatchers(r, 9)
		if len(l) > 0 && r.IntN(4) == 0 {
			l[r.IntN(len(l))].Op = r.IntN(8) - 2
		}
		checkAsked(t, l, askedModel(l))
	}
}

// 4.2: One with each Op: of a label that is there, of one that is not, of empty, long and like values.
func TestOne(t *testing.T) {
	l := said("a", "x", "b", "xy", "c", "", "b", "z")
	for _, c := range []struct {
		name, value string
		is, begins  bool
	}{
		{"a", "x", true, true}, {"a", "", false, true}, {"a", "y", false, false}, {"a", "xy", false, false}, {"a", "X", false, false}, {"a", " x", false, false},
		{"b", "x", false, true}, {"b", "xy", true, true}, {"b", "xyz", false, false}, {"b", "y", false, false}, {"b", "", false, true}, {"b", "z", false, false}, {"b", "xz", false, false},
		{"c", "", true, true}, {"c", "x", false, false}, {"none", "", true, true}, {"none", "x", false, false}, {"none", "none", false, false}, {"", "", true, true}, {"A", "x", false, false},
	} {
		for op, want := range []bool{c.is, !c.is, c.begins, !c.begins} {
			if got := label.One(l, asks(c.name, op, c.value)); got != want {
				t.Errorf("One(%q, %q %d %q) is %v", l, c.name, op, c.value, got)
			}
		}
	}
	for op, want := range []bool{true, false, true, false} {
		if label.One(nil, asks("a", op, "")) != want || label.One([]api.Label{}, asks("a", op, "x")) == want {
			t.Errorf("no label does not say the empty text: Op %d", op)
		}
	}
}

// 4.2: One of any labels and matchers; not is not.
func TestOneAny(t *testing.T) {
	r := drawn(5)
	for range 20000 {
		l := anyLabels(r, 4, 2)
		for _, m := range anyMatchers(r, 3) {
			if len(l) > 0 && r.IntN(2) == 0 {
				some := l[r.IntN(len(l))]
				m.Name, m.Value = some.Name, some.Value[:r.IntN(len(some.Value)+1)]
			}
			if got := label.One(l, m); got != oneModel(l, m) {
				t.Errorf("One(%q, %+v) is %v", l, m, got)
			}
			not := m
			not.Op = []int{api.IsNot, api.Is, api.BeginsNot, api.Begins}[m.Op]
			if label.One(l, m) == label.One(l, not) {
				t.Errorf("One(%q, %+v): not is not not", l, m)
			}
		}
	}
}

// 4.2: All of no matcher, of one, and of several of which one does not hold, wherever it stands.
func TestAll(t *testing.T) {
	l := said("a", "x", "b", "xy")
	holds := []api.Matcher{asks("a", api.Is, "x"), asks("b", api.Begins, "x"), asks("none", api.Is, ""), asks("a", api.IsNot, "y"), asks("b", api.BeginsNot, "y")}
	fails := []api.Matcher{asks("a", api.Is, "y"), asks("b", api.Begins, "y"), asks("none", api.IsNot, ""), asks("a", api.IsNot, "x"), asks("b", api.BeginsNot, "x")}
	check := func(m []api.Matcher, want bool) {
		t.Helper()
		wantSaid(t, "All of a=x and b=xy", m, label.All(l, m), want)
	}
	check(nil, true)
	check([]api.Matcher{}, true)
	check(holds, true)
	check(fails, false)
	for i := range holds {
		check(holds[i:i+1], true)
		check(fails[i:i+1], false)
		for at := range len(holds) + 1 {
			check(slices.Insert(slices.Clone(holds), at, fails[i]), false)
		}
		check(append(slices.Clone(holds), holds[i]), true)
	}
	if !label.All(nil, nil) || label.All(nil, fails) || !label.All(nil, []api.Matcher{asks("a", api.Is, ""), asks("b", api.IsNot, "x")}) {
		t.Error("All of no label is not of the empty text")
	}
}

// 4.2: All is One of each.
func TestAllAny(t *testing.T) {
	r := drawn(6)
	for range 20000 {
		l, m := rising(r), anyMatchers(r, 3)
		want := true
		for _, one := range m {
			want = want && oneModel(l, one)
		}
		if got := label.All(l, m); got != want {
			t.Errorf("All(%q, %+v) is %v", l, m, got)
		}
	}
}

// P1: what may not be still ends, and an Op that is none asks nothing that holds.
func TestWhatMayNotBeEnds(t *testing.T) {
	long := strings.Repeat("\xff", 100000)
	l := []api.Label{{}, {Name: long, Value: long}, {Name: "\x00", Value: "\""}}
	for _, op := range []int{math.MinInt, -1, 4, math.MaxInt} {
		for _, m := range []api.Matcher{asks("", op, ""), asks(long, op, long)} {
			if label.One(l, m) || label.One(nil, m) || label.All(l, []api.Matcher{m}) || label.Asked([]api.Matcher{m}) {
				t.Errorf("Op %d holds", op)
			}
		}
	}
	if label.Name(long) || label.Right(l) || label.Right(slices.Repeat(l, 1000)) || label.Get(l, long) != long {
		t.Error("what may not be may be")
	}
	if label.Text(l) != textModel(l) {
		t.Error("Text tells something else")
	}
	if got := label.Only(l, []string{long, ""}); !slices.Equal(got, l[:2]) {
		t.Errorf("Only tells %d labels", len(got))
	}
	if label.Compare(l, l) != 0 || label.Compare(l[1:], l) <= 0 || label.Compare(l, l[1:]) >= 0 {
		t.Error("what may not be has no order")
	}
}
