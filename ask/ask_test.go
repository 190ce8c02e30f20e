package ask_test

import (
	"fmt"
	"math"
	"slices"
	"strings"
	"testing"

	"raingauge/api"
	"raingauge/ask"
)

// The heads of the chapter's functions.
var (
	_ func(string) (*api.Ask, error)      = ask.Parse
	_ func(string) ([]api.Matcher, error) = ask.Match
	_ func(*api.Ask) string               = ask.Print
	_ func([]api.Matcher) string          = ask.Matchers
)

// Questions, written out.
func num(n int64) *api.Ask                 { return &api.Ask{Code: api.Num, Num: n} }
func pick(l ...api.Matcher) *api.Ask       { return &api.Ask{Code: api.Pick, Match: l, Span: 300} }
func neg(q *api.Ask) *api.Ask              { return &api.Ask{Code: api.Neg, Left: q} }
func two(code int, a, b *api.Ask) *api.Ask { return &api.Ask{Code: code, Left: a, Right: b} }
func add(a, b *api.Ask) *api.Ask           { return two(api.Add, a, b) }
func sub(a, b *api.Ask) *api.Ask           { return two(api.Sub, a, b) }
func mul(a, b *api.Ask) *api.Ask           { return two(api.Mul, a, b) }
func div(a, b *api.Ask) *api.Ask           { return two(api.Div, a, b) }
func over(code int, span int64, l ...api.Matcher) *api.Ask {
	return &api.Ask{Code: code, Match: l, Span: span}
}
func of(code int, q *api.Ask, by ...string) *api.Ask { return &api.Ask{Code: code, Left: q, By: by} }

func asks(name string, op int, value string) api.Matcher {
	return api.Matcher{Name: name, Op: op, Value: value}
}

// reads: a text is a question, this one, and is printed so.
type reads struct {
	text string
	want *api.Ask
	said string
}

func (c reads) check(t *testing.T) {
	t.Helper()
	q, err := ask.Parse(c.text)
	if err != nil || dump(q) != dump(c.want) {
		t.Errorf("Parse(%q) is %s, %v, not %s", c.text, dump(q), err, dump(c.want))
		return
	}
	if got := ask.Print(q); got != c.said {
		t.Errorf("%q is printed %q, not %q", c.text, got, c.said)
	}
	check(t, c.text)
}

// fails: a text is no question; this is told, there.
type fails struct {
	text  string
	err   api.Errno
	place int
}

func (c fails) check(t *testing.T) {
	t.Helper()
	q, err := ask.Parse(c.text)
	if got := told(t, err); got != (fault{c.err, c.place}) || q != nil {
		t.Errorf("Parse(%.300q): %v, %s, not %v", c.text, got, dump(q), fault{c.err, c.place})
	}
	check(t, c.text)
}

// checkMatchFails: Match of a text tells this, there, and nothing else.
func checkMatchFails(t *testing.T, c fails) {
	t.Helper()
	l, err := ask.Match(c.text)
	if got := told(t, err); got != (fault{c.err, c.place}) || l != nil {
		t.Errorf("Match(%.300q): %v, %+v, not %v", c.text, got, l, fault{c.err, c.place})
	}
	check(t, c.text)
}

func checkAll[C interface{ check(*testing.T) }](t *testing.T, l []C) {
	t.Helper()
	for _, c := range l {
		c.check(t)
	}
}

const (
	name24  = "n23456789012345678901234"
	value24 = "v23456789012345678901234"
)

// 11.1: the same tokens with blanks between, with several, with none where none must be, ahead and behind.
func TestBlanks(t *testing.T) {
	x := asks("a", api.Is, "x")
	for _, s := range []string{
		`total(sum({a="x"}[10]))by(b)-3*2`, `total(sum({a="x"}[10])) by (b) - 3 * 2`, ` total ( sum ( { a = "x" } [ 10 ] ) ) by ( b ) - 3 * 2 `,
		`   total   (   sum   (   {   a   =   "x"   }   [   10   ]   )   )   by   (   b   )   -   3   *   2   `, `(total( sum({a="x"}[10])) by (b) - (3 * 2))`,
	} {
		reads{s, sub(of(api.Total, over(api.Sum, 10, x), "b"), mul(num(3), num(2))), `total(sum({a="x"}[10])) by (b) - 3 * 2`}.check(t)
	}
	checkAll(t, []fails{ // a blank is a blank alone
		{"1\t+ 1", api.ErrForm, 1}, {"1\n", api.ErrForm, 1}, {"\r1", api.ErrForm, 0}, {"1 +\v1", api.ErrForm, 3}, {"1\x00", api.ErrForm, 1}, {"1\u00a0+ 1", api.ErrForm, 1}, {"\xa01", api.ErrForm, 0},
		{"to tal(1)", api.ErrForm, 0}, {"1 2", api.ErrForm, 2}, {`{a! ="x"}`, api.ErrForm, 2}, {`{a^ ="x"}`, api.ErrForm, 2}, {`{a! ^"x"}`, api.ErrForm, 2}, {"total(1)b y(a)", api.ErrForm, 8},
	})
}

// 11.1: each token alone, at the text's beginning, in its middle, and at its end, with blanks and without: taken, or wrong where it stands.
func TestEachToken(t *testing.T) {
	around := [][2]string{{"", ""}, {" ", ""}, {"", " "}, {"  ", "  "}, {"1", ""}, {"1 ", ""}, {"", "1"}, {"", " 1"}, {"1 + ", " + 1"}, {"1+", "+1"}, {"{", "}"}, {`{a`, `"x"}`}, {`{a="x"`, ""}, {`{a="x"} `, " 1"}, {"sum(", ""}, {"sum({}[", "])"}, {"total(1) ", "(a)"}, {"total(1)by(", ")"}}
	for _, token := range append(slices.Clone(palette), "!", "^", "#", `"`, "\xff", "é", "1234567890123456789") {
		for _, a := range around {
			check(t, a[0]+token+a[1])
		}
	}
	checkAll(t, []fails{
		{"=", api.ErrForm, 0}, {"!=", api.ErrForm, 0}, {"^=", api.ErrForm, 0}, {"!^", api.ErrForm, 0}, {"{", api.ErrForm, 1}, {"}", api.ErrForm, 0}, {"[", api.ErrForm, 0}, {"]", api.ErrForm, 0}, {"(", api.ErrForm, 1}, {")", api.ErrForm, 0},
		{",", api.ErrForm, 0}, {"+", api.ErrForm, 0}, {"-", api.ErrForm, 1}, {"*", api.ErrForm, 0}, {"/", api.ErrForm, 0}, {"a", api.ErrForm, 0}, {"by", api.ErrForm, 0}, {"sum", api.ErrForm, 3}, {"total", api.ErrForm, 5}, {`"x"`, api.ErrForm, 0}, {`""`, api.ErrForm, 0},
		{"", api.ErrForm, 0}, {" ", api.ErrForm, 1}, {"     ", api.ErrForm, 5}, {" - ", api.ErrForm, 3}, {"1 +   ", api.ErrForm, 6},
	})
}

// 11.1: a WORD begins with no digit, and is the longest run.
func TestWords(t *testing.T) {
	for _, name := range []string{"a", "Z", "_", "_0", "a0", "a9", "__", "aZ_09", "A1b2", "by", "sum", "total", "count", "Count", name24, name24[:23]} {
		m := asks(name, api.Is, "x")
		reads{"{" + name + `="x"}`, pick(m), "{" + name + `="x"}`}.check(t)
		reads{"many(1)by(" + name + ")", of(api.Many, num(1), name), "many(1) by (" + name + ")"}.check(t)
	}
	checkAll(t, []fails{
		{`{1a="x"}`, api.ErrForm, 1}, {`{0="x"}`, api.ErrForm, 1}, {`{a-b="x"}`, api.ErrForm, 2}, {`{a b="x"}`, api.ErrForm, 3}, {`{é="x"}`, api.ErrForm, 1}, {`{aé="x"}`, api.ErrForm, 2}, {"{a\xff=\"x\"}", api.ErrForm, 2}, {`{a.b="x"}`, api.ErrForm, 2},
		{"sum1({}[1])", api.ErrForm, 0}, {"1sum({}[1])", api.ErrForm, 1}, {"_sum({}[1])", api.ErrForm, 0}, {"totals(1)", api.ErrForm, 0}, {"total(1) by1 (a)", api.ErrForm, 9}, {"total(1) 1by (a)", api.ErrForm, 9}, {"1a", api.ErrForm, 1}, {"1_", api.ErrForm, 1},
		{"total(1)bya(a)", api.ErrForm, 8}, {"many(1) by (1a)", api.ErrForm, 12}, {"many(1) by (a1 1)", api.ErrForm, 15},
	})
	for c := range 256 { // which bytes go on with a word, and which begin one
		s := string([]byte{byte(c)})
		for _, text := range []string{"{" + s + `="x"}`, "{a" + s + `="x"}`, "{" + s + `a="x"}`, "sum" + s + "({}[1])", s + "sum({}[1])", "total(1)by(" + s + ")"} {
			check(t, text)
		}
	}
}

// 11.1: a NUMBER is digits, eighteen at most, noughts ahead or not.
func TestNumbers(t *testing.T) {
	for _, c := range []struct {
		text string
		want int64
		said string
	}{
		{"0", 0, "0"}, {"1", 1, "1"}, {"9", 9, "9"}, {"10", 10, "10"}, {"00", 0, "0"}, {"007", 7, "7"}, {"010", 10, "10"}, {"300", 300, "300"}, {"1099511627777", 1<<40 + 1, "1099511627777"},
		{"123456789012345678", 123456789012345678, "123456789012345678"}, {"999999999999999999", 999999999999999999, "999999999999999999"}, {"100000000000000000", 100000000000000000, "100000000000000000"},
		{"000000000000000000", 0, "0"}, {"000000000000000001", 1, "1"}, {"012345678901234567", 12345678901234567, "12345678901234567"},
	} {
		reads{c.text, num(c.want), c.said}.check(t)
		reads{" -" + c.text + " ", neg(num(c.want)), "-" + c.said}.check(t)
		reads{c.text + "+" + c.text, add(num(c.want), num(c.want)), c.said + " + " + c.said}.check(t)
	}
	nineteen := "1234567890123456789"
	checkAll(t, []fails{
		{nineteen, api.ErrLimit, 0}, {"9223372036854775807", api.ErrLimit, 0}, {"9223372036854775808", api.ErrLimit, 0}, {"99999999999999999999", api.ErrLimit, 0}, {"0000000000000000000", api.ErrLimit, 0}, {"0000000000000000001", api.ErrLimit, 0},
		{strings.Repeat("1", 100000), api.ErrLimit, 0}, {"  " + nineteen, api.ErrLimit, 2}, {"-" + nineteen, api.ErrLimit, 1}, {"1 + " + nineteen, api.ErrLimit, 4}, {nineteen + " + " + nineteen, api.ErrLimit, 0}, {"sum({}[" + nineteen + "])", api.ErrLimit, 7},
		{"sum({}[0000000000000000001])", api.ErrLimit, 7}, {nineteen + "a", api.ErrLimit, 0}, {"1.5", api.ErrForm, 1}, {"1e5", api.ErrForm, 1}, {"0x1", api.ErrForm, 1}, {"1_0", api.ErrForm, 1}, {"１", api.ErrForm, 0}, {"1２", api.ErrForm, 1},
	})
	reads{`{a="` + nineteen + `"}`, pick(asks("a", api.Is, nineteen)), `{a="` + nineteen + `"}`}.check(t) // not in a TEXT
	reads{"{n" + nineteen + `=""}`, pick(asks("n"+nineteen, api.Is, "")), "{n" + nineteen + `=""}`}.check(t)
}

// 11.1: a TEXT is what stands between two quotes; which signs a VALUE may have.
func TestTexts(t *testing.T) {
	for _, value := range []string{"", " ", "x", "~", "!", "#", "[", "]", "a b", "{a=x}", "(", ")", ",", "+ - * /", "!= ^= !^ =", "1", "by", "sum", "  x  ", value24, value24[:23], strings.Repeat(" ", 24)} {
		for op, sign := range []string{"=", "!=", "^=", "!^"} {
			s := "{a" + sign + `"` + value + `"}`
			reads{s, pick(asks("a", op, value)), s}.check(t)
			l, err := ask.Match(s)
			if err != nil || !slices.Equal(l, []api.Matcher{asks("a", op, value)}) || ask.Matchers(l) != s {
				t.Errorf("Match(%q) is %+v, %v, printed %s", s, l, err, ask.Matchers(l))
			}
		}
	}
	for c := range 256 {
		s := string([]byte{byte(c)})
		may := c >= 32 && c <= 126 && c != '"' && c != '\\'
		for _, value := range []string{s, "x" + s, s + "x", value24[:23] + s} {
			text := `{b="y",a="` + value + `"}`
			switch {
			case may:
				reads{text, pick(asks("b", api.Is, "y"), asks("a", api.Is, value)), text}.check(t)
			case c != '"':
				fails{text, api.ErrLimit, 9}.check(t)
				checkMatchFails(t, fails{text, api.ErrLimit, 9})
			default:
				check(t, text)
			}
		}
	}
	checkAll(t, []fails{
		{`{a="` + value24 + `5"}`, api.ErrLimit, 3}, {`{a="` + strings.Repeat("v", 100000) + `"}`, api.ErrLimit, 3}, {`{a!="` + value24 + `5"}`, api.ErrLimit, 4}, {`{a ^=  "é"}`, api.ErrLimit, 7}, {`{a="x",b="\"}`, api.ErrLimit, 9}, {"{a=\"\n\"", api.ErrLimit, 3},
		{`"`, api.ErrForm, 0}, {`{a="`, api.ErrForm, 3}, {`{a="x`, api.ErrForm, 3}, {`{a="x}`, api.ErrForm, 3}, {`{a=x"}`, api.ErrForm, 4}, {`{a="x"} "`, api.ErrForm, 8}, {`{a="""}`, api.ErrForm, 5}, {`{a="x"y"}`, api.ErrForm, 7}, {`{a="\""}`, api.ErrForm, 6}, {"1 \"" + strings.Repeat("x", 100000), api.ErrForm, 2},
		{`{a='x'}`, api.ErrForm, 3}, {`1 "x"`, api.ErrForm, 2}, {`{"a"="x"}`, api.ErrForm, 1}, {`"sum"({}[1])`, api.ErrForm, 0}, {`total(1) "by" (a)`, api.ErrForm, 9}, {`1 "+" 1`, api.ErrForm, 2}, {`"("1")"`, api.ErrForm, 0},
	})
}

// 11.1: marks that begin alike, the first that stands there; signs that are a part of a mark alone.
func TestMarks(t *testing.T) {
	checkAll(t, []reads{
		{`{a="x"}`, pick(asks("a", api.Is, "x")), `{a="x"}`}, {`{a!="x"}`, pick(asks("a", api.IsNot, "x")), `{a!="x"}`}, {`{a^="x"}`, pick(asks("a", api.Begins, "x")), `{a^="x"}`}, {`{a!^"x"}`, pick(asks("a", api.BeginsNot, "x")), `{a!^"x"}`},
		{`{a = "x",a != "x",a ^= "x",a !^ "x"}`, pick(asks("a", api.Is, "x"), asks("a", api.IsNot, "x"), asks("a", api.Begins, "x"), asks("a", api.BeginsNot, "x")), `{a="x",a!="x",a^="x",a!^"x"}`},
	})
	checkAll(t, []fails{
		{"!", api.ErrForm, 0}, {"^", api.ErrForm, 0}, {"1!", api.ErrForm, 1}, {"1^", api.ErrForm, 1}, {`{a!"x"}`, api.ErrForm, 2}, {`{a^"x"}`, api.ErrForm, 2}, {`{a!`, api.ErrForm, 2}, {`{a^`, api.ErrForm, 2}, {`{a!!="x"}`, api.ErrForm, 2}, {`{a^^="x"}`, api.ErrForm, 2},
		{`{a!^="x"}`, api.ErrForm, 4}, {`{a^=="x"}`, api.ErrForm, 4}, {`{a!=="x"}`, api.ErrForm, 4}, {`{a=="x"}`, api.ErrForm, 3}, {`{a=!="x"}`, api.ErrForm, 3}, {`{a=^="x"}`, api.ErrForm, 3}, {`{a^!="x"}`, api.ErrForm, 2}, {`{a=^"x"}`, api.ErrForm, 3}, {`{a=!"x"}`, api.ErrForm, 3}, {`{a!^^="x"}`, api.ErrForm, 4},
		{`{a<"x"}`, api.ErrForm, 2}, {`{a~="x"}`, api.ErrForm, 2}, {`{a,"x"}`, api.ErrForm, 2}, {`{a+"x"}`, api.ErrForm, 2}, {`{a"x"}`, api.ErrForm, 2}, {`{a a"x"}`, api.ErrForm, 3},
	})
}

// 11.1: a sign that no token begins with, alone, in the middle, and at the end; it is told ahead of what may not stand there.
func TestNoToken(t *testing.T) {
	for c := range 256 {
		s := string([]byte{byte(c)})
		if strings.Contains(` ={}[](),+-*/_`, s) || c >= '0' && c <= '9' || c >= 'A' && c <= 'Z' || c >= 'a' && c <= 'z' {
			continue
		}
		checkAll(t, []fails{{s, api.ErrForm, 0}, {"  " + s, api.ErrForm, 2}, {"1 + " + s, api.ErrForm, 4}, {"1 " + s + " + 1", api.ErrForm, 2}, {"1" + s, api.ErrForm, 1}, {") ] " + s, api.ErrForm, 4}, {"(" + s + ")", api.ErrForm, 1}, {"1 +  " + s + s, api.ErrForm, 5}})
		checkMatchFails(t, fails{"{} " + s, api.ErrForm, 3})
		checkMatchFails(t, fails{"1 + 2 " + s, api.ErrForm, 6})
	}
}

// plus is a sum of so many tokens.
func plus(tokens int) string {
	s := strings.Repeat("1 + ", (tokens-1)/2) + "1"
	if tokens%2 == 0 {
		return "-" + s
	}
	return s
}

// 11.1: as many tokens as may be, more, and what is none behind them.
func TestMostTokens(t *testing.T) {
	for _, n := range []int{1, 2, 117, 118, 119, 120} {
		for _, s := range []string{plus(n), "  " + plus(n) + "  ", strings.ReplaceAll(plus(n), " ", "")} {
			if !check(t, s) {
				t.Errorf("%d tokens are too many", n)
			}
		}
	}
	for n, at := range map[int]int{121: 240, 122: 239, 123: 240, 200: 239, 10000: 239, 10001: 240} {
		fails{plus(n), api.ErrLimit, at}.check(t)
		fails{plus(n) + " $", api.ErrLimit, at}.check(t)
	}
	end := len(plus(120))
	full := plus(120)
	checkAll(t, []fails{
		{full + " 1", api.ErrLimit, end + 1}, {full + ")", api.ErrLimit, end}, {full + `  "x"`, api.ErrLimit, end + 2}, {full + " 1234567890123456789", api.ErrLimit, end + 1}, {full + " a b", api.ErrLimit, end + 1},
		{full + " $", api.ErrForm, end + 1}, {full + "!", api.ErrForm, end}, {full + ` "x`, api.ErrForm, end + 1}, {full + "\xff", api.ErrForm, end}, {full + " + $", api.ErrLimit, end + 1}, {full + " $ +", api.ErrForm, end + 1},
		{strings.Repeat("(", 121), api.ErrLimit, 120}, {strings.Repeat("(", 120), api.ErrLimit, 9}, {strings.Repeat(")", 120), api.ErrForm, 0}, {strings.Repeat(")", 121), api.ErrLimit, 120}, {strings.Repeat("a", 121), api.ErrForm, 0}, {strings.Repeat(")", 120) + "$", api.ErrForm, 120},
		{"1234567890123456789 " + full, api.ErrLimit, 0}, {"$" + full, api.ErrForm, 0}, {strings.Repeat(") ", 100000), api.ErrLimit, 240},
	})
	checkMatchFails(t, fails{"{" + strings.Repeat("}", 119) + " }", api.ErrLimit, 121})
	checkMatchFails(t, fails{"{" + strings.Repeat("}", 119), api.ErrForm, 2})
}

// 11.1, 11.2: SUM and PROD, from the left, one weight ahead of the other, in brackets and without.
func TestSigns(t *testing.T) {
	one, b, c := num(1), num(2), num(3)
	checkAll(t, []reads{
		{"1", one, "1"}, {"1+2", add(one, b), "1 + 2"}, {"1-2", sub(one, b), "1 - 2"}, {"1*2", mul(one, b), "1 * 2"}, {"1/2", div(one, b), "1 / 2"},
		{"1+2+3", add(add(one, b), c), "1 + 2 + 3"}, {"1-2-3", sub(sub(one, b), c), "1 - 2 - 3"}, {"1*2*3", mul(mul(one, b), c), "1 * 2 * 3"}, {"1/2/3", div(div(one, b), c), "1 / 2 / 3"},
		{"1+2-3", sub(add(one, b), c), "1 + 2 - 3"}, {"1-2+3", add(sub(one, b), c), "1 - 2 + 3"}, {"1*2/3", div(mul(one, b), c), "1 * 2 / 3"}, {"1/2*3", mul(div(one, b), c), "1 / 2 * 3"},
		{"1+2*3", add(one, mul(b, c)), "1 + 2 * 3"}, {"1*2+3", add(mul(one, b), c), "1 * 2 + 3"}, {"1-2/3", sub(one, div(b, c)), "1 - 2 / 3"}, {"1/2-3", sub(div(one, b), c), "1 / 2 - 3"},
		{"(1+2)+3", add(add(one, b), c), "1 + 2 + 3"}, {"1+(2+3)", add(one, add(b, c)), "1 + (2 + 3)"}, {"1-(2-3)", sub(one, sub(b, c)), "1 - (2 - 3)"}, {"1-(2+3)", sub(one, add(b, c)), "1 - (2 + 3)"}, {"1+(2-3)", add(one, sub(b, c)), "1 + (2 - 3)"},
		{"(1*2)*3", mul(mul(one, b), c), "1 * 2 * 3"}, {"1*(2*3)", mul(one, mul(b, c)), "1 * (2 * 3)"}, {"1/(2/3)", div(one, div(b, c)), "1 / (2 / 3)"}, {"1/(2*3)", div(one, mul(b, c)), "1 / (2 * 3)"}, {"1*(2/3)", mul(one, div(b, c)), "1 * (2 / 3)"},
		{"(1+2)*3", mul(add(one, b), c), "(1 + 2) * 3"}, {"1*(2+3)", mul(one, add(b, c)), "1 * (2 + 3)"}, {"(1-2)/3", div(sub(one, b), c), "(1 - 2) / 3"}, {"1/(2-3)", div(one, sub(b, c)), "1 / (2 - 3)"},
		{"1+(2*3)", add(one, mul(b, c)), "1 + 2 * 3"}, {"(1*2)+3", add(mul(one, b), c), "1 * 2 + 3"}, {"1-(2/3)", sub(one, div(b, c)), "1 - 2 / 3"}, {"(1/2)-3", sub(div(one, b), c), "1 / 2 - 3"},
		{"1+2*3-1/2", sub(add(one, mul(b, c)), div(one, b)), "1 + 2 * 3 - 1 / 2"}, {"1*2+3*1", add(mul(one, b), mul(c, one)), "1 * 2 + 3 * 1"}, {"(1+2)*(3-1)", mul(add(one, b), sub(c, one)), "(1 + 2) * (3 - 1)"},
		{"((1))", one, "1"}, {"((((((((1))))))))", one, "1"}, {"((1+2))", add(one, b), "1 + 2"}, {"((1)+((2)))*((3))", mul(add(one, b), c), "(1 + 2) * 3"}, {"(1)", one, "1"},
	})
	checkAll(t, []fails{
		{"1+", api.ErrForm, 2}, {"1 -", api.ErrForm, 3}, {"1*", api.ErrForm, 2}, {"1/", api.ErrForm, 2}, {"+1", api.ErrForm, 0}, {"*1", api.ErrForm, 0}, {"/1", api.ErrForm, 0}, {"1++2", api.ErrForm, 2}, {"1-+2", api.ErrForm, 2}, {"1**2", api.ErrForm, 2}, {"1*/2", api.ErrForm, 2}, {"1+*2", api.ErrForm, 2}, {"1,2", api.ErrForm, 1},
		{"()", api.ErrForm, 1}, {"(1", api.ErrForm, 2}, {"(1 ", api.ErrForm, 3}, {"1)", api.ErrForm, 1}, {"(1))", api.ErrForm, 3}, {"((1)", api.ErrForm, 4}, {"(1]", api.ErrForm, 2}, {"[1]", api.ErrForm, 0}, {"(1 2)", api.ErrForm, 3}, {"1(2)", api.ErrForm, 1}, {"(1)(2)", api.ErrForm, 3}, {"(+)", api.ErrForm, 1}, {"1=1", api.ErrForm, 1}, {"{}{}", api.ErrForm, 2}, {"(1,2)", api.ErrForm, 2},
	})
}

// 11.1, 11.2: the - of one: once, twice, ahead of brackets, of questions, behind signs.
func TestNeg(t *testing.T) {
	one, b := num(1), num(2)
	checkAll(t, []reads{
		{"-1", neg(one), "-1"}, {"- 1", neg(one), "-1"}, {"--1", neg(neg(one)), "--1"}, {"- - 1", neg(neg(one)), "--1"}, {"-(-1)", neg(neg(one)), "--1"}, {"(-1)", neg(one), "-1"}, {"-(1)", neg(one), "-1"},
		{"-1+2", add(neg(one), b), "-1 + 2"}, {"-(1+2)", neg(add(one, b)), "-(1 + 2)"}, {"-1*2", mul(neg(one), b), "-1 * 2"}, {"-(1*2)", neg(mul(one, b)), "-(1 * 2)"}, {"(-1)*2", mul(neg(one), b), "-1 * 2"}, {"-1/2", div(neg(one), b), "-1 / 2"},
		{"1--2", sub(one, neg(b)), "1 - -2"}, {"1 - - 2", sub(one, neg(b)), "1 - -2"}, {"1---2", sub(one, neg(neg(b))), "1 - --2"}, {"1+-2", add(one, neg(b)), "1 + -2"}, {"1*-2", mul(one, neg(b)), "1 * -2"}, {"1/--2", div(one, neg(neg(b))), "1 / --2"}, {"1-(-2)", sub(one, neg(b)), "1 - -2"}, {"1-(-2+1)", sub(one, add(neg(b), one)), "1 - (-2 + 1)"},
		{"-{}", neg(pick()), "-{}"}, {"-sum({}[5])", neg(over(api.Sum, 5)), "-sum({}[5])"}, {"-total({})", neg(of(api.Total, pick())), "-total({})"}, {"-total(-{}) by (a)", neg(of(api.Total, neg(pick()), "a")), "-total(-{}) by (a)"}, {"-(total({}) by (a))", neg(of(api.Total, pick(), "a")), "-total({}) by (a)"},
		{"-(-(1+2))", neg(neg(add(one, b))), "--(1 + 2)"}, {"-1-1", sub(neg(one), one), "-1 - 1"}, {"-(1-1)", neg(sub(one, one)), "-(1 - 1)"}, {"-0", neg(num(0)), "-0"},
	})
	checkAll(t, []fails{{"-", api.ErrForm, 1}, {"--", api.ErrForm, 2}, {"-+1", api.ErrForm, 1}, {"-*1", api.ErrForm, 1}, {"-)", api.ErrForm, 1}, {"1-", api.ErrForm, 2}, {"(-)", api.ErrForm, 2}, {"-a", api.ErrForm, 1}})
}

// 11.1, 11.2: OVER with each of its words, each place of it wrong, and spans.
func TestOver(t *testing.T) {
	x, y := asks("a", api.Is, "x"), asks("b", api.BeginsNot, "y")
	for i, word := range []string{"count", "sum", "min", "max", "delta"} {
		code := api.Count + i
		checkAll(t, []reads{
			{word + "({}[1])", over(code, 1), word + "({}[1])"}, {word + " ( { a = \"x\" , b !^ \"y\" } [ 10 ] ) ", over(code, 10, x, y), word + `({a="x",b!^"y"}[10])`},
			{word + "({}[0])", over(code, 1), word + "({}[1])"}, {word + "({}[000])", over(code, 1), word + "({}[1])"}, {word + "({}[300])", over(code, 300), word + "({}[300])"}, {word + "({}[0300])", over(code, 300), word + "({}[300])"},
			{word + "({}[1099511627776])", over(code, api.MaxTime), word + "({}[1099511627776])"}, {word + "({}[001099511627776])", over(code, api.MaxTime), word + "({}[1099511627776])"},
			{"(" + word + "({}[7]))*2", mul(over(code, 7), num(2)), word + "({}[7]) * 2"},
		})
		n := len(word)
		checkAll(t, []fails{
			{word + "({}[1099511627777])", api.ErrLimit, n + 4}, {word + "({}[999999999999999999])", api.ErrLimit, n + 4}, {word + "({}[1099511627777", api.ErrLimit, n + 4}, {word + "({}[1099511627777 1", api.ErrLimit, n + 4},
			{word, api.ErrForm, n}, {word + "{}", api.ErrForm, n}, {word + "[1]", api.ErrForm, n}, {word + "(", api.ErrForm, n + 1}, {word + "()", api.ErrForm, n + 1}, {word + "(1)", api.ErrForm, n + 1}, {word + "(({}[1]))", api.ErrForm, n + 1}, {word + "(-{}[1])", api.ErrForm, n + 1}, {word + "([1])", api.ErrForm, n + 1},
			{word + "({}", api.ErrForm, n + 3}, {word + "({})", api.ErrForm, n + 3}, {word + "({}(1))", api.ErrForm, n + 3}, {word + "({}+1)", api.ErrForm, n + 3}, {word + "({}{}[1])", api.ErrForm, n + 3}, {word + "({}[", api.ErrForm, n + 4}, {word + "({}[])", api.ErrForm, n + 4}, {word + "({}[a])", api.ErrForm, n + 4}, {word + "({}[-1])", api.ErrForm, n + 4}, {word + `({}["1"])`, api.ErrForm, n + 4}, {word + "({}[(1)])", api.ErrForm, n + 4},
			{word + "({}[1", api.ErrForm, n + 5}, {word + "({}[1)", api.ErrForm, n + 5}, {word + "({}[1 2])", api.ErrForm, n + 6}, {word + "({}[1+1])", api.ErrForm, n + 5}, {word + "({}[1]", api.ErrForm, n + 6}, {word + "({}[1]]", api.ErrForm, n + 6}, {word + "({}[1],1)", api.ErrForm, n + 6}, {word + "({}[1])(", api.ErrForm, n + 7}, {word + "({}[1]) by (a)", api.ErrForm, n + 8}, {word + "({}[1]))", api.ErrForm, n + 7},
			{word + "(" + word + "({}[1])[1])", api.ErrForm, n + 1}, {strings.ToUpper(word) + "({}[1])", api.ErrForm, 0}, {strings.ToUpper(word[:1]) + word[1:] + "({}[1])", api.ErrForm, 0}, {word[:n-1] + "({}[1])", api.ErrForm, 0}, {word + "s({}[1])", api.ErrForm, 0},
		})
	}
	checkAll(t, []fails{{"avg({}[1])", api.ErrForm, 0}, {"by({}[1])", api.ErrForm, 0}, {"({}[1])", api.ErrForm, 3}, {"{}[1]", api.ErrForm, 2}, {"total({}[1])", api.ErrForm, 8}})
}

// 11.1, 11.2: OF with each of its words, each place of it wrong, and by.
func TestOf(t *testing.T) {
	for i, word := range []string{"total", "least", "most", "many"} {
		code := api.Total + i
		checkAll(t, []reads{
			{word + "({})", of(code, pick()), word + "({})"}, {word + "(1)", of(code, num(1)), word + "(1)"}, {word + "(1 + 2 * 3)", of(code, add(num(1), mul(num(2), num(3)))), word + "(1 + 2 * 3)"}, {word + "((1 + 2))", of(code, add(num(1), num(2))), word + "(1 + 2)"}, {word + "(-1)", of(code, neg(num(1))), word + "(-1)"},
			{word + "(" + word + "({}))", of(code, of(code, pick())), word + "(" + word + "({}))"}, {word + "(sum({}[9]))", of(code, over(api.Sum, 9)), word + "(sum({}[9]))"},
			{word + "({})by(a)", of(code, pick(), "a"), word + "({}) by (a)"}, {word + " ( {} ) by ( a , b ) ", of(code, pick(), "a", "b"), word + "({}) by (a, b)"}, {word + "({}) by (b,a)", of(code, pick(), "b", "a"), word + "({}) by (b, a)"}, {word + "({}) by (a,a)", of(code, pick(), "a", "a"), word + "({}) by (a, a)"},
			{word + "({}) by (by, sum, total)", of(code, pick(), "by", "sum", "total"), word + "({}) by (by, sum, total)"}, {word + "({}) by (a,b,c,d,e,f,g,h)", of(code, pick(), "a", "b", "c", "d", "e", "f", "g", "h"), word + "({}) by (a, b, c, d, e, f, g, h)"},
			{word + "(" + word + "({}) by (a,b)) by (a)", of(code, of(code, pick(), "a", "b"), "a"), word + "(" + word + "({}) by (a, b)) by (a)"}, {word + "({}) by (" + name24 + ")", of(code, pick(), name24), word + "({}) by (" + name24 + ")"},
			{word + "({}) by (a) / " + word + "({}) by (a)", div(of(code, pick(), "a"), of(code, pick(), "a")), word + "({}) by (a) / " + word + "({}) by (a)"}, {"(" + word + "({}))-1", sub(of(code, pick()), num(1)), word + "({}) - 1"},
		})
		n := len(word)
		checkAll(t, []fails{
			{word, api.ErrForm, n}, {word + " 1", api.ErrForm, n + 1}, {word + "{}", api.ErrForm, n}, {word + "(", api.ErrForm, n + 1}, {word + "()", api.ErrForm, n + 1}, {word + "(1", api.ErrForm, n + 2}, {word + "(1]", api.ErrForm, n + 2}, {word + "(1,2)", api.ErrForm, n + 2}, {word + "(1 2)", api.ErrForm, n + 3}, {word + "(1))", api.ErrForm, n + 3}, {word + "(a)", api.ErrForm, n + 1}, {word + "({}[1])", api.ErrForm, n + 3},
			{word + "(1)by", api.ErrForm, n + 5}, {word + "(1)by a", api.ErrForm, n + 6}, {word + "(1)by(", api.ErrForm, n + 6}, {word + "(1)by()", api.ErrForm, n + 6}, {word + "(1)by(1)", api.ErrForm, n + 6}, {word + `(1)by("a")`, api.ErrForm, n + 6}, {word + "(1)by(,a)", api.ErrForm, n + 6}, {word + "(1)by((a))", api.ErrForm, n + 6}, {word + "(1)by(a", api.ErrForm, n + 7}, {word + "(1)by(a,", api.ErrForm, n + 8}, {word + "(1)by(a,)", api.ErrForm, n + 8}, {word + "(1)by(a b)", api.ErrForm, n + 8}, {word + "(1)by(a]", api.ErrForm, n + 7}, {word + "(1)by(a,,b)", api.ErrForm, n + 8},
			{word + "(1)by(a))", api.ErrForm, n + 8}, {word + "(1)by(a)by(a)", api.ErrForm, n + 8}, {word + "(1)BY(a)", api.ErrForm, n + 3}, {word + "(1)By(a)", api.ErrForm, n + 3}, {word + "(1)(a)", api.ErrForm, n + 3}, {word + "by(a)(1)", api.ErrForm, 0}, {word + " by(a)(1)", api.ErrForm, n + 1},
			{word + "(1)by(" + name24 + "5)", api.ErrLimit, n + 6}, {word + "(1)by(a," + name24 + "5)", api.ErrLimit, n + 8}, {word + "(1)by(a," + name24 + "5", api.ErrLimit, n + 8}, {word + "(1)by(a,b,c,d,e,f,g,h,i)", api.ErrLimit, n + 22}, {word + "(1)by(a,b,c,d,e,f,g,h,i", api.ErrLimit, n + 22}, {word + "(1)by(a,b,c,d,e,f,g,h,i,j,k)", api.ErrLimit, n + 22}, {word + "(1)by(a,a,a,a,a,a,a,a,a)", api.ErrLimit, n + 22}, {word + "(1)by(a,b,c,d,e,f,g,h," + name24 + "5)", api.ErrLimit, n + 22},
			{word + "(1)by(a,b,c,d,e,f,g,h,)", api.ErrForm, n + 22}, {word + "(1)by(a,b,c,d,e,f,g,h,1)", api.ErrForm, n + 22}, {word + "(1)by(a,b,c,d,e,f,g,h,", api.ErrForm, n + 22}, {word + "(1)by(a,b,c,d,e,f,g,h i)", api.ErrForm, n + 22},
			{strings.ToUpper(word) + "(1)", api.ErrForm, 0}, {strings.ToUpper(word[:1]) + word[1:] + "(1)", api.ErrForm, 0}, {word[:n-1] + "(1)", api.ErrForm, 0}, {word + "s(1)", api.ErrForm, 0},
		})
	}
	checkAll(t, []fails{{"1 by (a)", api.ErrForm, 2}, {"{} by (a)", api.ErrForm, 3}, {"(total(1)) by (a)", api.ErrForm, 11}, {"by (a)", api.ErrForm, 0}, {"total(1) + 1 by (a)", api.ErrForm, 13}, {"avg(1)", api.ErrForm, 0}, {"a(1)", api.ErrForm, 0}, {"sum(1)", api.ErrForm, 4}})
}

// some is matchers, so many.
func some(n int) string {
	return "{" + strings.TrimSuffix(strings.Repeat(`a="x",`, n), ",") + "}"
}

// 11.1, 11.2: SOME: none, one, as many as may be, one more; each place of it wrong.
func TestSome(t *testing.T) {
	for n := range 12 {
		s := some(n)
		want := slices.Repeat([]api.Matcher{asks("a", api.Is, "x")}, n)
		if n > api.MaxLabels {
			checkMatchFails(t, fails{s, api.ErrLimit, 49})
			fails{s, api.ErrLimit, 49}.check(t)
			fails{"sum(" + s + "[1])", api.ErrLimit, 53}.check(t)
			continue
		}
		reads{s, pick(want...), s}.check(t)
		reads{"sum(" + s + "[1])", over(api.Sum, 1, want...), "sum(" + s + "[1])"}.check(t)
		l, err := ask.Match(s)
		if err != nil || !slices.Equal(l, want) || ask.Matchers(l) != s {
			t.Errorf("Match(%s) is %+v, %v", s, l, err)
		}
	}
	eight := strings.TrimSuffix(some(8), "}")
	for _, c := range []fails{
		{eight + ",}", api.ErrLimit, 49}, {eight + ", 1}", api.ErrLimit, 50}, {eight + `,"x"`, api.ErrLimit, 49}, {eight + ",,", api.ErrLimit, 49}, {eight + "," + name24 + "5", api.ErrLimit, 49}, {eight + ",", api.ErrLimit, 49}, {eight + ", ", api.ErrLimit, 50}, {eight, api.ErrForm, 48}, {eight + " a", api.ErrForm, 49}, {eight + ",$", api.ErrForm, 49},
		{"{", api.ErrForm, 1}, {"{ ", api.ErrForm, 2}, {"{,}", api.ErrForm, 1}, {"{1}", api.ErrForm, 1}, {"{{}}", api.ErrForm, 1}, {`{"x"}`, api.ErrForm, 1}, {`{=}`, api.ErrForm, 1}, {`{="x"}`, api.ErrForm, 1}, {"{)", api.ErrForm, 1},
		{"{a", api.ErrForm, 2}, {"{a}", api.ErrForm, 2}, {"{a,b}", api.ErrForm, 2}, {"{a b}", api.ErrForm, 3}, {"{a=", api.ErrForm, 3}, {"{a=}", api.ErrForm, 3}, {"{a=b}", api.ErrForm, 3}, {"{a=1}", api.ErrForm, 3}, {"{a!=}", api.ErrForm, 4}, {`{a="x"`, api.ErrForm, 6}, {`{a="x" `, api.ErrForm, 7}, {`{a="x"]`, api.ErrForm, 6}, {`{a="x")`, api.ErrForm, 6}, {`{a="x" b="y"}`, api.ErrForm, 7}, {`{a="x";b="y"}`, api.ErrForm, 6}, {`{a="x""y"}`, api.ErrForm, 6}, {`{a="x"="y"}`, api.ErrForm, 6},
		{`{a="x",`, api.ErrForm, 7}, {`{a="x",}`, api.ErrForm, 7}, {`{a="x",,}`, api.ErrForm, 7}, {`{a="x",1}`, api.ErrForm, 7}, {`{a="x","y"}`, api.ErrForm, 7}, {`{a="x"}}`, api.ErrForm, 7}, {`{a="x"},`, api.ErrForm, 7}, {`{}{`, api.ErrForm, 2}, {"{}}", api.ErrForm, 2}, {"{} {}", api.ErrForm, 3},
		{"{" + name24 + `5="x"}`, api.ErrLimit, 1}, {"{" + name24 + "5", api.ErrLimit, 1}, {"{" + name24 + "5}", api.ErrLimit, 1}, {`{a="x", ` + name24 + `5="x"}`, api.ErrLimit, 8}, {`{` + strings.Repeat("n", 100000) + `="x"}`, api.ErrLimit, 1}, {"{a=" + name24 + "5}", api.ErrForm, 3},
	} {
		c.check(t)
		checkMatchFails(t, c)
	}
}

// 11.2: Match of what Parse takes as SOME, of more than that, and of less.
func TestMatch(t *testing.T) {
	for _, c := range []struct {
		text string
		want []api.Matcher
		said string
	}{
		{"{}", nil, "{}"}, {"  {  }  ", nil, "{}"}, {`{a="x"}`, []api.Matcher{asks("a", api.Is, "x")}, `{a="x"}`}, {` { a ^= "x" , b != "" } `, []api.Matcher{asks("a", api.Begins, "x"), asks("b", api.IsNot, "")}, `{a^="x",b!=""}`},
		{`{b="y",a="x"}`, []api.Matcher{asks("b", api.Is, "y"), asks("a", api.Is, "x")}, `{b="y",a="x"}`}, {`{a!^"a b",a!^"a b"}`, []api.Matcher{asks("a", api.BeginsNot, "a b"), asks("a", api.BeginsNot, "a b")}, `{a!^"a b",a!^"a b"}`},
	} {
		l, err := ask.Match(c.text)
		if err != nil || !slices.Equal(l, c.want) || ask.Matchers(l) != c.said {
			t.Errorf("Match(%s) is %+v, %v, printed %s", c.text, l, err, ask.Matchers(l))
		}
		q, err := ask.Parse(c.text)
		if err != nil || dump(q) != dump(pick(c.want...)) {
			t.Errorf("Parse(%s) is %s, %v", c.text, dump(q), err)
		}
	}
	for _, c := range []fails{
		{"", api.ErrForm, 0}, {"   ", api.ErrForm, 3}, {"1", api.ErrForm, 0}, {" -{}", api.ErrForm, 1}, {"({})", api.ErrForm, 0}, {"{}+{}", api.ErrForm, 2}, {"{} - 1", api.ErrForm, 3}, {"{}[5]", api.ErrForm, 2}, {"{} 1", api.ErrForm, 3}, {"sum({}[5])", api.ErrForm, 0}, {"total({})", api.ErrForm, 0}, {"a", api.ErrForm, 0}, {`a="x"`, api.ErrForm, 0}, {"}", api.ErrForm, 0}, {"[]", api.ErrForm, 0}, {`"x"`, api.ErrForm, 0},
		{"1234567890123456789", api.ErrLimit, 0}, {"{} 1234567890123456789", api.ErrLimit, 3}, {"1 $", api.ErrForm, 2}, {strings.Repeat("(", 20), api.ErrForm, 0}, {"{", api.ErrForm, 1},
	} {
		checkMatchFails(t, c)
	}
}

// layer is what stands round a ONE, so that it is one deeper.
type layer struct{ open, shut string }

// checkLayers holds that a text in layers is taken, if they are few enough, and else where it goes wrong: at what stands in nine of them.
func checkLayers(t *testing.T, layers []layer, inner string) {
	t.Helper()
	s, ninth := inner, 0
	for i, l := range slices.Backward(layers) {
		s = l.open + s + l.shut
		ninth += len(l.open)
		if i == 9 { // only what stands ahead of it is counted
			ninth = 0
		}
	}
	for len(layers) > 8 && s[ninth] == ' ' {
		ninth++
	}
	want := fault{api.ErrLimit, ninth}
	if len(layers) <= 8 {
		want = noFault
	}
	if _, err := ask.Parse(s); told(t, err) != want {
		t.Errorf("%s, in %d: %v, not %v", s, len(layers), told(t, err), want)
	}
	check(t, s)
}

// 11.1: how deep a ONE may stand: in - ( OF, of one kind and mixed; what doesn't count.
func TestDepth(t *testing.T) {
	minus, round := layer{"-", ""}, layer{"(", ")"}
	tight := []layer{minus, round, {"- ", ""}, {" ( ", " ) "}, {"total(", ")"}, {"least(", ") by (a)"}, {"most(", ")"}, {"many( ", ")by(a,b)"}}
	loose := []layer{round, {"1 - (", ")"}, {"{} * total(", ") - 1"}, {"(", ") / 2"}, {"1 - -(2) + (", ")"}, {"sum({}[5]) - (", ")"}}
	inners := []string{"1", "{}", `{a="x"}`, "sum({}[5])", "1 + 2", "1 - 2 * 3", "sum({}[5]) - {}"}
	r := drawn(5)
	for n := range 12 {
		for _, inner := range inners {
			for _, l := range slices.Concat(tight, loose[:4]) {
				checkLayers(t, slices.Repeat([]layer{l}, n), inner)
			}
			for _, kinds := range [][]layer{{minus, round}, tight, loose[:4]} {
				var mixed []layer
				for range n {
					mixed = append(mixed, kinds[r.IntN(len(kinds))])
				}
				checkLayers(t, mixed, inner)
			}
		}
	}
	for n := range 5 {
		checkLayers(t, slices.Repeat(loose[4:5], n), "1")
		checkLayers(t, slices.Repeat(loose[5:], n), "1")
	}
	checkAll(t, []fails{
		{"---------1", api.ErrLimit, 9}, {"----------1", api.ErrLimit, 9}, {"(((((((((1)))))))))", api.ErrLimit, 9}, {"((((((((-1))))))))", api.ErrLimit, 9}, {"--------(1)", api.ErrLimit, 9}, {"--------total({})", api.ErrLimit, 14}, {"((((((((total(1)))))))))", api.ErrLimit, 14}, {"((((((((1 + (2)))))))))", api.ErrLimit, 13}, {"((((((((1 * -2))))))))", api.ErrLimit, 13}, {"((((((((total({}) by (a)))))))))", api.ErrLimit, 14}, {"1 + (2 + (3 + (4 + (5 + (6 + (7 + (8 + (9 + (10)", api.ErrLimit, 45},
		{"((((((((( ", api.ErrLimit, 10}, {"---------", api.ErrLimit, 9}, {"((((((((()", api.ErrLimit, 9}, {"(((((((((+", api.ErrLimit, 9}, {"---------a", api.ErrLimit, 9}, {"--------", api.ErrForm, 8}, {"(((((((()", api.ErrForm, 8}, {"--------a", api.ErrForm, 8}, {"((((((((1", api.ErrForm, 9}, {"((((((((1)))))))))", api.ErrForm, 17}, {"--------total", api.ErrForm, 13}, {"--------total(", api.ErrLimit, 14},
	})
	x := pick(asks("a", api.Is, "x"))
	deep := neg(neg(neg(neg(neg(neg(neg(neg(x))))))))
	checkAll(t, []reads{ // brackets beside one another, of OVER, of by, and the - of two don't count
		{`--------{a="x"}`, deep, `--------{a="x"}`}, {"((((((((1)))))))) + ((((((((2))))))))", add(num(1), num(2)), "1 + 2"}, {"((((((((sum({}[5])))))))))", over(api.Sum, 5), "sum({}[5])"}, {"(((((((total(1) by (a))))))))", of(api.Total, num(1), "a"), "total(1) by (a)"},
		{"--------1 - --------1", sub(neg(neg(neg(neg(neg(neg(neg(neg(num(1))))))))), neg(neg(neg(neg(neg(neg(neg(neg(num(1)))))))))), "--------1 - --------1"}, {"((((((((1 - 2 - 3 - 4 - 5 - 6 - 7 - 8 - 9 - 10))))))))", sub(sub(sub(sub(sub(sub(sub(sub(sub(num(1), num(2)), num(3)), num(4)), num(5)), num(6)), num(7)), num(8)), num(9)), num(10)), "1 - 2 - 3 - 4 - 5 - 6 - 7 - 8 - 9 - 10"},
	})
}

// 11.1: which error is told, where there are two: of tokens ahead of all others, then at the first token, and at one token ErrLimit ahead of ErrForm.
func TestWhichError(t *testing.T) {
	long, digits := name24+"5", "1234567890123456789"
	checkAll(t, []fails{
		{") $", api.ErrForm, 2}, {") " + digits, api.ErrLimit, 2}, {"$ " + digits, api.ErrForm, 0}, {digits + " $", api.ErrLimit, 0}, {"! $", api.ErrForm, 0}, {"{" + long + `="x} `, api.ErrForm, 27}, {"(((((((((1 $", api.ErrForm, 11}, {"---------1 " + digits, api.ErrLimit, 11}, {"sum({}[1099511627777]) ^", api.ErrForm, 23}, {`{a="\"} "`, api.ErrForm, 8},
		{"{" + long + "=}", api.ErrLimit, 1}, {"{=" + long + "}", api.ErrForm, 1}, {`{a="\" b`, api.ErrLimit, 3}, {`{a "\"`, api.ErrForm, 3}, {`{a="\",` + long + `=""}`, api.ErrLimit, 3}, {"{" + long + `="\"}`, api.ErrLimit, 1}, {"sum({}[1099511627777)", api.ErrLimit, 7}, {"sum({}(1099511627777])", api.ErrForm, 6}, {"sum(1[1099511627777])", api.ErrForm, 4}, {`sum({a="\"}[1099511627777])`, api.ErrLimit, 7},
		{"total(1) by (" + long + ",,)", api.ErrLimit, 13}, {"total(1) by (,," + long + ")", api.ErrForm, 13}, {"1 + ) - {" + long, api.ErrForm, 4}, {"{" + long + "} + )", api.ErrLimit, 1}, {"-1 2 ---------1", api.ErrForm, 3}, {"---------1 2 )", api.ErrLimit, 9}, {") ---------1", api.ErrForm, 0}, {"(((((((((]", api.ErrLimit, 9}, {"((((((((]", api.ErrForm, 8}, {long, api.ErrForm, 0}, {long + "(1)", api.ErrForm, 0}, {"total(1) " + long + " (a)", api.ErrForm, 9},
		{`1 "\"`, api.ErrForm, 2}, {`{"\"}`, api.ErrForm, 1}, {"1099511627777 1", api.ErrForm, 14}, {"(1", api.ErrForm, 2}, {"total(1) by (a", api.ErrForm, 14}, {"{" + long + "   ", api.ErrLimit, 1}, {`{a="x"   `, api.ErrForm, 9},
	})
}

// texts that are questions, with each rule of the grammar.
var rightTexts = []string{
	"1", "{}", `{a="x"}`, `{a!="x",b^="y",job!^""}`, "-1", "--{}", "(1)", "((1 + 2) * 3)", "1 + 2 - 3 * 4 / 5", `count({a="x"}[10])`, "sum({}[0])", `min({a="x",b="y"}[1])`, "max({}[300])", "delta({}[7])",
	"total(1)", "least({}) by (a)", "most(-{}) by (a, b)", "many(total(1) by (a)) by (a)", `total(sum({a="x"}[10])) by (b) - 3 * 2`, "-total(1) by (a) * (1 - -2)", `(max({a="x"}[5]) - min({a="x"}[5])) / many({}) by (by, by)`,
}

// 11.1: at each place of each rule each token that may, and may not, stand there: in the place of another one, one too many, one missing, and nothing more.
func TestEachPlace(t *testing.T) {
	taken, refused := 0, 0
	try := func(l ...[]string) {
		if check(t, strings.Join(slices.Concat(l...), " ")) {
			taken++
		} else {
			refused++
		}
	}
	for _, s := range rightTexts {
		var l []string
		tokens, _ := modelTokens(s, 120)
		for _, one := range tokens {
			l = append(l, one.text)
		}
		for i := range len(l) + 1 {
			try(l[:i])
			for _, token := range palette {
				try(l[:i], []string{token}, l[i:])
				if i < len(l) {
					try(l[:i], []string{token}, l[i+1:])
				}
			}
			if i < len(l) {
				try(l[:i], l[i+1:])
				try(l[:i], l[i:i+1], l[i:])
			}
		}
	}
	if taken < 500 || refused < 5000 {
		t.Errorf("hardly any of one kind: %d taken, %d refused", taken, refused)
	}
}

// 11.1, 11.2: any questions: read as the model reads them, printed as the model prints them.
func TestAnyQuestion(t *testing.T) {
	r := drawn(1)
	taken := 0
	for range 4000 {
		s := spread(r, anyQuestion(r, r.IntN(6)))
		if !check(t, s) {
			continue
		}
		taken++
		q, _ := ask.Parse(s)
		if got, want := ask.Print(q), modelPrint(q); got != want {
			t.Errorf("%s is printed %s, not %s", s, got, want)
		}
	}
	if taken < 2000 {
		t.Errorf("hardly any is a question: %d", taken)
	}
}

// tooMuch is a token of the same kind, that is too much where a NAME, a TEXT or a span must be; a mark as it is.
func tooMuch(token string) string {
	tokens, _ := modelTokens(token, 1)
	switch tokens[0].class {
	case "WORD":
		return name24 + token
	case "TEXT":
		return `"` + value24 + token[1:]
	case "NUMBER":
		return "1099511627777"
	}
	return token
}

// 11.1: questions with tokens that went, came, or changed; and with bytes that did.
func TestAnyFault(t *testing.T) {
	r := drawn(2)
	seen := map[api.Errno]int{}
	for range 20000 {
		l := anyQuestion(r, r.IntN(5))
		for range r.IntN(3) {
			i := r.IntN(len(l))
			switch r.IntN(4) {
			case 0:
				l[i] = oneOf(r, palette...)
			case 1:
				l = slices.Insert(l, i, oneOf(r, palette...))
			case 2:
				l = append(slices.Delete(l, i, i+1), oneOf(r, "1", "{", "}", ")"))
			case 3:
				l[i] = tooMuch(l[i])
			}
		}
		b := []byte(spread(r, l))
		if r.IntN(4) == 0 {
			b[r.IntN(len(b))] = `(){}[],=!^+-*/"a1 `[r.IntN(18)]
		}
		check(t, string(b))
		_, err := ask.Parse(string(b))
		seen[api.Tell(err)]++
	}
	if seen[api.OK] < 1000 || seen[api.ErrForm] < 1000 || seen[api.ErrLimit] < 300 || len(seen) != 3 {
		t.Errorf("hardly any of one kind: %v", seen)
	}
}

// 11.1: tokens of any kind, one behind the other; P1: none panics, or goes on without end.
func TestAnyTokens(t *testing.T) {
	r := drawn(3)
	for range 20000 {
		var l []string
		for range r.IntN(12) {
			l = append(l, oneOf(r, palette...))
		}
		check(t, spread(r, l))
	}
	for range 3000 { // long ones, of few kinds
		kinds := []string{oneOf(r, palette...), oneOf(r, palette...), oneOf(r, "(", "-", "1 +", "total(", "1 *")}
		var b strings.Builder
		for range 100 + r.IntN(60) {
			b.WriteString(oneOf(r, kinds...) + " ")
		}
		check(t, b.String())
	}
}

// P1: bytes of any kind.
func TestAnyBytes(t *testing.T) {
	r := drawn(4)
	for range 30000 {
		b := make([]byte, r.IntN(20))
		for i := range b {
			b[i] = byte(r.IntN(256))
			if r.IntN(3) > 0 {
				b[i] = `(){}[],=!^+-*/"a1 `[r.IntN(18)]
			}
		}
		check(t, string(b))
	}
}

// P1: long texts of one thing.
func TestLongTexts(t *testing.T) {
	for _, one := range []string{"(", ")", "-", "1", "a", " ", `"`, `""`, "{", "total(", `{a="x"}`, "1+", "1 ", "sum({}[1])*", "\xff", "\n", "!", "-(", "by", ","} {
		s := strings.Repeat(one, 200000)
		q, err := ask.Parse(s)
		if q != nil || err == nil {
			t.Errorf("%q many times is taken", one)
		}
		l, err := ask.Match(s)
		if l != nil || err == nil {
			t.Errorf("%q many times is taken by Match", one)
		}
		ask.Parse("1 + " + s)
		ask.Match("{" + s)
	}
	blanks := strings.Repeat(" ", 200000)
	if q, err := ask.Parse(blanks + "1" + blanks); err != nil || dump(q) != dump(num(1)) {
		t.Errorf("with many blanks 1 is %s, %v", dump(q), err)
	}
	if _, err := ask.Parse(blanks); told(t, err) != (fault{api.ErrForm, len(blanks)}) {
		t.Errorf("many blanks: %v", told(t, err))
	}
}

// 11.2: each field of what Parse tells, those too that no sentence names.
func TestFields(t *testing.T) {
	for _, c := range []struct {
		text string
		want api.Ask
	}{
		{"5", api.Ask{Code: 1, Num: 5}}, {"{}", api.Ask{Code: 2, Span: 300}}, {"count({}[5])", api.Ask{Code: 3, Span: 5}}, {"sum({}[5])", api.Ask{Code: 4, Span: 5}}, {"min({}[5])", api.Ask{Code: 5, Span: 5}}, {"max({}[5])", api.Ask{Code: 6, Span: 5}}, {"delta({}[0])", api.Ask{Code: 7, Span: 1}},
		{"total(5)", api.Ask{Code: 8}}, {"least(5)", api.Ask{Code: 9}}, {"most(5)", api.Ask{Code: 10}}, {"many(5)", api.Ask{Code: 11}}, {"-5", api.Ask{Code: 12}}, {"5+5", api.Ask{Code: 13}}, {"5-5", api.Ask{Code: 14}}, {"5*5", api.Ask{Code: 15}}, {"5/5", api.Ask{Code: 16}},
	} {
		q, err := ask.Parse(c.text)
		if err != nil {
			t.Errorf("%s: %v", c.text, err)
			continue
		}
		if q.Code != c.want.Code || q.Num != c.want.Num || q.Span != c.want.Span || len(q.Match) != 0 || len(q.By) != 0 {
			t.Errorf("%s is %+v", c.text, q)
		}
		if (q.Left != nil) != (q.Code >= api.Total) || (q.Right != nil) != (q.Code >= api.Add) {
			t.Errorf("%s has other parts: %+v", c.text, q)
		}
	}
}

// 11.2: Print of the document's example, and of much together.
func TestPrint(t *testing.T) {
	for _, c := range [][2]string{
		{`(total( sum({a="x"}[10])) by (b) - (3 * 2))`, `total(sum({a="x"}[10])) by (b) - 3 * 2`}, {`((((1))+((2)))*(((3)-(4))))`, "(1 + 2) * (3 - 4)"}, {"(1+(2*(3-(4/(5)))))", "1 + 2 * (3 - 4 / 5)"}, {"-(-(-(1)))", "---1"}, {"total((-((1+2))))", "total(-(1 + 2))"},
		{`count(  {a  ="x" , b!^ "y z"} [ 007 ] )`, `count({a="x",b!^"y z"}[7])`}, {"((total((1))by(a,b)))", "total(1) by (a, b)"}, {"(((1)-2)-3)-(4-(5-6))", "1 - 2 - 3 - (4 - (5 - 6))"}, {"(1*2)/(3*4)", "1 * 2 / (3 * 4)"}, {"(1/2)*(-(3))", "1 / 2 * -3"}, {"(-1)-(-1)", "-1 - -1"},
		{"many((total({})by(a)))by(b)", "many(total({}) by (a)) by (b)"}, {`({a="("})-({b=")"})`, `{a="("} - {b=")"}`}, {"(1+2)", "1 + 2"}, {"(0)", "0"},
	} {
		q, err := ask.Parse(c[0])
		if err != nil || ask.Print(q) != c[1] {
			t.Errorf("%s is printed %s, not %s (%v)", c[0], ask.Print(q), c[1], err)
		}
	}
}

// 11.2: Print of each tree of two and three signs, and of the - of one among them, is what the model prints.
func TestPrintEachTree(t *testing.T) {
	leaves := []*api.Ask{num(1)}
	grow := func(l []*api.Ask) (out []*api.Ask) {
		out = append(out, l...)
		for _, a := range l {
			out = append(out, neg(a), of(api.Total, a), of(api.Most, a, "a"))
			for _, b := range l {
				out = append(out, add(a, b), sub(a, b), mul(a, b), div(a, b))
			}
		}
		return out
	}
	for _, q := range grow(grow(leaves)) {
		if got, want := ask.Print(q), modelPrint(q); got != want {
			t.Errorf("%s is printed %s", want, got)
		}
		checkPrinted(t, q)
	}
}

// 11.2: Matchers of none, of one of each Op, of several.
func TestMatchers(t *testing.T) {
	for _, c := range []struct {
		l    []api.Matcher
		want string
	}{
		{nil, "{}"}, {[]api.Matcher{}, "{}"}, {[]api.Matcher{asks("name", api.Is, "value")}, `{name="value"}`}, {[]api.Matcher{asks("name", api.Is, "value"), asks("name", api.IsNot, "value")}, `{name="value",name!="value"}`},
		{[]api.Matcher{asks("a", api.Begins, "")}, `{a^=""}`}, {[]api.Matcher{asks("a", api.BeginsNot, "x y")}, `{a!^"x y"}`}, {[]api.Matcher{asks("b", api.BeginsNot, ","), asks("a", api.Begins, "="), asks("_", api.IsNot, "{}")}, `{b!^",",a^="=",_!="{}"}`},
	} {
		if got := ask.Matchers(c.l); got != c.want {
			t.Errorf("Matchers(%+v) is %s, not %s", c.l, got, c.want)
		}
	}
}

// parts are a question, and all its parts.
func parts(q *api.Ask) []*api.Ask {
	if q == nil {
		return nil
	}
	return slices.Concat([]*api.Ask{q}, parts(q.Left), parts(q.Right))
}

// spoil changes all of a question, also behind its lists' lengths.
func spoil(q *api.Ask) {
	for _, one := range parts(q) {
		spoilMatch(one.Match)
		for i := range one.By[:cap(one.By)] {
			one.By[:cap(one.By)][i] = "spoilt"
		}
		*one = api.Ask{Code: 99}
	}
}

func spoilMatch(l []api.Matcher) {
	for i := range l[:cap(l)] {
		l[:cap(l)][i] = asks("spoilt", 9, "spoilt")
	}
}

// P4: what comes out is the caller's: changed, it changes no other answer, and no other part of it.
func TestFresh(t *testing.T) {
	for _, s := range append(slices.Clone(rightTexts), `{a="x",b="y",c="z"} + {a="x",b="y",c="z"} * total({}) by (a, b, c) - total({}) by (a, b, c)`) {
		one, _ := ask.Parse(s)
		two, _ := ask.Parse(s)
		was, said := dump(two), ask.Print(two)
		spoil(one)
		three, _ := ask.Parse(s)
		if dump(two) != was || dump(three) != was || ask.Print(three) != said {
			t.Errorf("%s: an answer changed with another one", s)
		}
		all := parts(two)
		for i, a := range all { // each part's lists, changed one by one
			spoilMatch(a.Match)
			for j := range a.By[:cap(a.By)] {
				a.By[:cap(a.By)][j] = "spoilt"
			}
			for j, b := range all[i+1:] {
				if a == b || strings.Contains(dumpLists(b), "spoilt") {
					t.Errorf("%s: parts %d and %d share memory", s, i, i+1+j)
				}
			}
		}
		l, err := ask.Match(s)
		if err == nil {
			again, _ := ask.Match(s)
			was := ask.Matchers(again)
			spoilMatch(l)
			if ask.Matchers(again) != was {
				t.Errorf("%s: what Match told changed with another answer", s)
			}
		}
	}
}

func dumpLists(q *api.Ask) string { return fmt.Sprint(dumpMatch(q.Match), q.By) }

// P4: what is handed in is not written into, nor what stands behind its length.
func TestHandedIn(t *testing.T) {
	room := []api.Matcher{asks("a", api.Is, "x"), asks("b", api.IsNot, "y"), asks("behind", api.Is, "z")}
	names := []string{"a", "b", "behind"}
	wasRoom, wasNames := slices.Clone(room), slices.Clone(names)
	q := sub(of(api.Total, pick(room[:2]...), names[:2]...), over(api.Sum, 5, room[:1]...))
	was := dump(q)
	said, match := ask.Print(q), ask.Matchers(room[:2])
	if said != `total({a="x",b!="y"}) by (a, b) - sum({a="x"}[5])` || match != `{a="x",b!="y"}` {
		t.Errorf("printed %s and %s", said, match)
	}
	if dump(q) != was || !slices.Equal(room, wasRoom) || !slices.Equal(names, wasNames) {
		t.Error("what was handed in was written into")
	}
	spoil(q)
	if said != `total({a="x",b!="y"}) by (a, b) - sum({a="x"}[5])` || match != `{a="x",b!="y"}` {
		t.Error("what was printed changed")
	}
}

// P1: Print and Matchers of what Parse and Match never tell end, and don't panic.
func TestPrintOfWhatMayNotBe(t *testing.T) {
	if ask.Print(nil) != "" || ask.Print(&api.Ask{}) != "" {
		t.Error("no question is printed")
	}
	for _, code := range []int{math.MinInt, -1, 0, 17, 99, math.MaxInt} {
		for _, q := range []*api.Ask{{Code: code}, neg(&api.Ask{Code: code}), add(&api.Ask{Code: code}, num(1)), {Code: code, Left: num(1), Right: num(1), By: []string{"a"}}} {
			ask.Print(q)
		}
	}
	for code := range 20 {
		ask.Print(&api.Ask{Code: code})
		ask.Print(&api.Ask{Code: code, Num: math.MinInt64, Span: math.MinInt64, By: []string{"", "\xff"}, Match: []api.Matcher{{Op: -1}, {Op: 4}, {Op: math.MaxInt}, {Op: math.MinInt}}})
		round := &api.Ask{Code: code}
		round.Left, round.Right = round, round
		ask.Print(round)
	}
	for _, op := range []int{math.MinInt, -1, 4, math.MaxInt} {
		ask.Matchers([]api.Matcher{asks("a", op, "x"), {}})
	}
	q := num(1)
	for range 1 << 15 {
		q = neg(q)
	}
	if got := ask.Print(q); got != strings.Repeat("-", 1<<15)+"1" {
		t.Errorf("a deep question is printed with %d bytes", len(got))
	}
	for range 100 {
		q = add(q, q)
	}
	ask.Print(q)
}
