package ask_test

// What chapter 11 says, once more. Tokens are told by a pattern. Where a text goes wrong is told by the rules of the grammar as they stand in the document: all ways to go on with them are kept side by side, until a token fits none of them. What a text asks is told by looking for the last sign that binds least. Which ( and ) must be is told by leaving each pair out.

import (
	"errors"
	"fmt"
	"math/big"
	"math/rand/v2"
	"regexp"
	"slices"
	"strconv"
	"strings"
	"testing"

	"raingauge/api"
	"raingauge/ask"
	"raingauge/plain"
)

var (
	tokenPattern = regexp.MustCompile(`\A(?:([A-Za-z_][A-Za-z0-9_]*)|([0-9]+)|("[^"]*")|(!=|\^=|!\^|=|\{|\}|\[|\]|\(|\)|,|\+|-|\*|/))`)
	valuePattern = regexp.MustCompile(`\A"[\x20-\x21\x23-\x5b\x5d-\x7e]{0,24}"\z`)
)

// modelToken is a token: its class is WORD, NUMBER, TEXT, or the mark itself; of the end it is empty.
type modelToken struct {
	class, text string
	at          int
}

// fault is an error at a place; Err is 0, if there is none.
type fault struct {
	err   api.Errno
	place int
}

func (f fault) String() string { return fmt.Sprint("error ", int(f.err), " at ", f.place) }

var noFault = fault{api.OK, -1}

// modelTokens are a text's tokens, at most so many of them, and what is wrong with them.
func modelTokens(s string, most int) (out []modelToken, wrong fault) {
	at := 0
	for {
		for at < len(s) && s[at] == 32 {
			at++
		}
		if at == len(s) {
			return out, noFault
		}
		parts := tokenPattern.FindStringSubmatch(s[at:])
		switch {
		case parts == nil:
			return nil, fault{api.ErrForm, at}
		case len(parts[2]) > 18 || len(out) >= most:
			return nil, fault{api.ErrLimit, at}
		}
		class := parts[4]
		for i, name := range []string{"", "WORD", "NUMBER", "TEXT"} {
			if parts[i] != "" && i > 0 {
				class = name
			}
		}
		out = append(out, modelToken{class, parts[0], at})
		at += len(parts[0])
	}
}

var rulesSeen = map[string][][]string{}

// rules are rulesOf, worked out once.
func rules(symbol string) [][]string {
	found, ok := rulesSeen[symbol]
	if !ok {
		found = rulesOf(symbol)
		rulesSeen[symbol] = found
	}
	return found
}

// rulesOf are what a symbol of the grammar may be, each with its symbols; none of a token's class, or a token itself. Behind a colon stands how deep, or which one of several, it is.
func rulesOf(symbol string) [][]string {
	name, count, _ := strings.Cut(symbol, ":")
	n, _ := strconv.Atoi(count)
	r := strings.NewReplacer("#", strconv.Itoa(n), "@", strconv.Itoa(n+1))
	lines := map[string]string{
		"SUM":   "PROD:# SUMS:#",
		"SUMS":  "| + PROD:# SUMS:# | - PROD:# SUMS:#",
		"PROD":  "ONE:# PRODS:#",
		"PRODS": "| * ONE:# PRODS:# | / ONE:# PRODS:#",
		"ONE":   "- ONE:@ | ( SUM:@ ) | NUMBER | SOME | OVER ( SOME [ SPAN ] ) | OF ( SUM:@ ) | OF ( SUM:@ ) by ( NAME:1 NAMES:1 )",
		"SOME":  "{ PAIR:1 PAIRS:1 } | { }",
		"PAIRS": "| , PAIR:@ PAIRS:@",
		"PAIR":  "NAME:0 OP VALUE",
		"NAMES": "| , NAME:@ NAMES:@",
	}
	line, ok := lines[name]
	if !ok {
		return nil
	}
	if n > 8 && (name == "ONE" || name == "PAIR") {
		return [][]string{{"TOOMUCH"}}
	}
	var out [][]string
	for _, one := range strings.Split(r.Replace(line), "|") {
		out = append(out, strings.Fields(one))
	}
	return out
}

var classes = map[string][]string{
	"OVER": {"count", "sum", "min", "max", "delta"},
	"OF":   {"total", "least", "most", "many"},
	"OP":   {"=", "!=", "^=", "!^"},
}

// fits says whether a token may stand where a symbol stands that is no rule, and whether it is too much there.
func fits(symbol string, t modelToken) (fit, tooMuch bool) {
	name, count, _ := strings.Cut(symbol, ":")
	switch name {
	case "NUMBER":
		return t.class == "NUMBER", false
	case "SPAN":
		n, _ := strconv.Atoi(t.text)
		return t.class == "NUMBER", n > 1<<40
	case "VALUE":
		return t.class == "TEXT", !valuePattern.MatchString(t.text)
	case "NAME":
		return t.class == "WORD", len(t.text) > 24 || count > "8"
	case "OVER", "OF", "OP":
		return slices.Contains(classes[name], t.text), false
	}
	return t.text == name, false
}

// grown are all stacks of symbols that one may be, each with a token, or with nothing, at its top.
func grown(stack []string) (out [][]string) {
	if len(stack) == 0 {
		return [][]string{nil}
	}
	found := rules(stack[0])
	if found == nil {
		return [][]string{stack}
	}
	for _, one := range found {
		out = append(out, grown(slices.Concat(one, stack[1:]))...)
	}
	return out
}

// modelWrong is where tokens go wrong that are to be a symbol, and how; end is the text's end.
func modelWrong(symbol string, tokens []modelToken, end int) fault {
	stacks := [][]string{{symbol}}
	for _, t := range append(slices.Clone(tokens), modelToken{at: end}) {
		var next [][]string
		fit := false
		for _, stack := range stacks {
			for _, one := range grown(stack) {
				switch {
				case len(one) == 0:
					fit = fit || t.class == ""
				case one[0] == "TOOMUCH":
					return fault{api.ErrLimit, t.at}
				case t.class != "":
					ok, tooMuch := fits(one[0], t)
					if ok && tooMuch {
						return fault{api.ErrLimit, t.at}
					}
					if ok {
						fit = true
						next = append(next, one[1:])
					}
				}
			}
		}
		if !fit {
			return fault{api.ErrForm, t.at}
		}
		stacks = next
	}
	return noFault
}

// lastSign is where the last of two signs stands that is in no brackets, and stands between two; 0: nowhere.
func lastSign(tokens []modelToken, signs string) (found int) {
	deep := 0
	for i, t := range tokens {
		switch t.class {
		case "(", "[", "{":
			deep++
		case ")", "]", "}":
			deep--
		case "+", "-", "*", "/":
			if deep == 0 && i > 0 && strings.Contains(signs, t.class) && !strings.Contains("+-*/", tokens[i-1].class) {
				found = i
			}
		}
	}
	return found
}

// modelTree is what tokens ask (that are a SUM).
func modelTree(t []modelToken) *api.Ask {
	for _, signs := range []string{"+-", "*/"} {
		if i := lastSign(t, signs); i > 0 {
			code := map[string]int{"+": api.Add, "-": api.Sub, "*": api.Mul, "/": api.Div}[t[i].class]
			return &api.Ask{Code: code, Left: modelTree(t[:i]), Right: modelTree(t[i+1:])}
		}
	}
	last := len(t) - 1
	switch t[0].text {
	case "-":
		return &api.Ask{Code: api.Neg, Left: modelTree(t[1:])}
	case "(":
		return modelTree(t[1:last])
	case "{":
		return &api.Ask{Code: api.Pick, Match: modelMatch(t), Span: 300}
	case "total", "least", "most", "many":
		return modelOf(t)
	}
	if t[0].class == "NUMBER" {
		return &api.Ask{Code: api.Num, Num: bigNumber(t[0].text)}
	}
	code := map[string]int{"count": api.Count, "sum": api.Sum, "min": api.Min, "max": api.Max, "delta": api.Delta}[t[0].text]
	return &api.Ask{Code: code, Match: modelMatch(t[2 : last-3]), Span: max(1, bigNumber(t[last-2].text))}
}

// modelOf is what tokens ask that are an OF.
func modelOf(t []modelToken) *api.Ask {
	code := map[string]int{"total": api.Total, "least": api.Least, "most": api.Most, "many": api.Many}[t[0].text]
	deep, end := 0, 1
	for i, one := range t {
		switch one.class {
		case "(":
			deep++
		case ")":
			if deep--; deep == 0 && end == 1 {
				end = i
			}
		}
	}
	q := &api.Ask{Code: code, Left: modelTree(t[2:end])}
	for i := end + 3; i < len(t); i += 2 {
		q.By = append(q.By, t[i].text)
	}
	return q
}

// modelMatch is what tokens ask of labels (that are a SOME).
func modelMatch(t []modelToken) (out []api.Matcher) {
	for i := 1; i+3 < len(t); i += 4 {
		out = append(out, api.Matcher{Name: t[i].text, Op: slices.Index(classes["OP"], t[i+1].text), Value: strings.Trim(t[i+2].text, `"`)})
	}
	return out
}

func bigNumber(s string) int64 {
	n, _ := new(big.Int).SetString(s, 10)
	return n.Int64()
}

// modelParse is what Parse tells.
func modelParse(s string) (*api.Ask, fault) {
	tokens, wrong := modelTokens(s, 120)
	if wrong == noFault {
		wrong = modelWrong("SUM:0", tokens, len(s))
	}
	if wrong != noFault {
		return nil, wrong
	}
	return modelTree(tokens), noFault
}

// modelMatchText is what Match tells.
func modelMatchText(s string) ([]api.Matcher, fault) {
	tokens, wrong := modelTokens(s, 120)
	if wrong == noFault {
		wrong = modelWrong("SOME", tokens, len(s))
	}
	if wrong != noFault {
		return nil, wrong
	}
	return modelMatch(tokens), noFault
}

// full is a question with ( and ) round each part of it that signs are in.
func full(q *api.Ask) string {
	name := []string{api.Count: "count", api.Sum: "sum", api.Min: "min", api.Max: "max", api.Delta: "delta", api.Total: "total", api.Least: "least", api.Most: "most", api.Many: "many", api.Neg: "-", api.Add: "+", api.Sub: "-", api.Mul: "*", api.Div: "/"}
	switch {
	case q.Code == api.Num:
		return fmt.Sprint(q.Num)
	case q.Code == api.Pick:
		return fullMatch(q.Match)
	case q.Code <= api.Delta:
		return fmt.Sprintf("%s(%s[%d])", name[q.Code], fullMatch(q.Match), q.Span)
	case q.Code <= api.Many && len(q.By) == 0:
		return fmt.Sprintf("%s(%s)", name[q.Code], full(q.Left))
	case q.Code <= api.Many:
		return fmt.Sprintf("%s(%s) by (%s)", name[q.Code], full(q.Left), strings.Join(q.By, ", "))
	case q.Code == api.Neg:
		return fmt.Sprintf("(-%s)", full(q.Left))
	}
	return fmt.Sprintf("(%s %s %s)", full(q.Left), name[q.Code], full(q.Right))
}

func fullMatch(l []api.Matcher) string {
	var parts []string
	for _, m := range l {
		parts = append(parts, fmt.Sprintf("%s%s\"%s\"", m.Name, classes["OP"][m.Op], m.Value))
	}
	return "{" + strings.Join(parts, ",") + "}"
}

// pairs are the places of ( and ) that belong together.
func pairs(s string) (out [][2]int) {
	tokens, _ := modelTokens(s, 1<<30)
	var open []int
	for _, t := range tokens {
		switch t.class {
		case "(":
			open = append(open, t.at)
		case ")":
			out = append(out, [2]int{open[len(open)-1], t.at})
			open = open[:len(open)-1]
		}
	}
	return out
}

// without is a text without a pair of brackets.
func without(s string, pair [2]int) string {
	return s[:pair[0]] + s[pair[0]+1:pair[1]] + s[pair[1]+1:]
}

// asksSame says whether a text is one that may be (however deep and long it is), and asks just this.
func asksSame(s string, q *api.Ask) bool {
	tokens, wrong := modelTokens(s, 1<<30)
	if wrong != noFault {
		return false
	}
	if w := modelWrong("SUM:-999", tokens, len(s)); w != noFault {
		return false
	}
	return dump(modelTree(tokens)) == dump(q)
}

// modelPrint is what Print tells: each pair of brackets is left out, if the same is asked without it.
func modelPrint(q *api.Ask) string {
	s := full(q)
again:
	for _, pair := range pairs(s) {
		if asksSame(without(s, pair), q) {
			s = without(s, pair)
			goto again
		}
	}
	return s
}

// dump is a question with each of its fields.
func dump(q *api.Ask) string {
	if q == nil {
		return "-"
	}
	return fmt.Sprintf("[%d %d %q %d %q %s %s]", q.Code, q.Num, fmt.Sprint(dumpMatch(q.Match)), q.Span, strings.Join(q.By, ";"), dump(q.Left), dump(q.Right))
}

func dumpMatch(l []api.Matcher) (out []string) {
	for _, m := range l {
		out = append(out, fmt.Sprintf("%q %d %q", m.Name, m.Op, m.Value))
	}
	return out
}

// told is an error taken apart; that it is of the right kind is held, too.
func told(t *testing.T, err error) fault {
	t.Helper()
	if err == nil {
		return noFault
	}
	var at *api.At
	var e api.Errno
	if !errors.As(err, &at) || !errors.As(err, &e) || at.Err != e {
		t.Errorf("the error %#v has no At, or no Errno", err)
		return fault{api.Tell(err), -1}
	}
	if e2, place := plain.Place(err); e2 != e || place != at.Place {
		t.Errorf("the error %#v says two things", err)
	}
	return fault{e, at.Place}
}

// checkParse holds Parse against a model's answer.
func checkParse(t *testing.T, s string) (*api.Ask, bool) {
	t.Helper()
	want, wrong := modelParse(s)
	q, err := ask.Parse(s)
	if got := told(t, err); got != wrong {
		t.Errorf("Parse(%.400q): %v, not %v", s, got, wrong)
	}
	if dump(q) != dump(want) {
		t.Errorf("Parse(%.400q) is %s, not %s", s, dump(q), dump(want))
	}
	return q, err == nil
}

// checkMatch holds Match against a model's answer.
func checkMatch(t *testing.T, s string) ([]api.Matcher, bool) {
	t.Helper()
	want, wrong := modelMatchText(s)
	l, err := ask.Match(s)
	if got := told(t, err); got != wrong {
		t.Errorf("Match(%.400q): %v, not %v", s, got, wrong)
	}
	if !slices.Equal(l, want) || err != nil && l != nil {
		t.Errorf("Match(%.400q) is %+v, not %+v", s, l, want)
	}
	return l, err == nil
}

// check holds Parse and Match of a text against the models, and what is printed of them.
func check(t *testing.T, s string) (taken bool) {
	t.Helper()
	if l, ok := checkMatch(t, s); ok {
		checkMatchers(t, l)
	}
	q, ok := checkParse(t, s)
	if ok {
		checkPrinted(t, q)
	}
	return ok
}

// checkMatchers holds Matchers of what Match told.
func checkMatchers(t *testing.T, l []api.Matcher) {
	t.Helper()
	s := ask.Matchers(l)
	if s != fullMatch(l) {
		t.Errorf("Matchers(%+v) is %s, not %s", l, s, fullMatch(l))
	}
	again, err := ask.Match(s)
	if err != nil || !slices.Equal(again, l) {
		t.Errorf("Match(%q) is %+v, %v, not what was printed", s, again, err)
	}
}

// checkPrinted: what is printed is read as the same question, is printed just so, and has no ( and ) without which it would be the same.
func checkPrinted(t *testing.T, q *api.Ask) {
	t.Helper()
	was := dump(q)
	s := ask.Print(q)
	if dump(q) != was {
		t.Errorf("Print wrote into the question: %s", s)
	}
	again, err := ask.Parse(s)
	if err != nil || dump(again) != was {
		t.Errorf("%s is printed, and read as %s (%v), not %s", s, dump(again), err, was)
		return
	}
	if twice := ask.Print(again); twice != s {
		t.Errorf("%s is printed, and then %s", s, twice)
	}
	for _, pair := range pairs(s) {
		if less, err := ask.Parse(without(s, pair)); err == nil && dump(less) == was {
			t.Errorf("%s is printed, the same as %s", s, without(s, pair))
		}
	}
}

// drawn makes numbers that look drawn, the same each time.
func drawn(seed uint64) *rand.Rand { return rand.New(rand.NewPCG(seed, 11)) }

func oneOf(r *rand.Rand, l ...string) string { return l[r.IntN(len(l))] }

// palette are tokens of every kind, some of which may stand almost nowhere.
var palette = []string{
	"!=", "^=", "!^", "=", "{", "}", "[", "]", "(", ")", ",", "+", "-", "*", "/", "0", "1", "300", "1099511627776", "1099511627777", "999999999999999999",
	"a", "b", "job", "by", "count", "sum", "min", "max", "delta", "total", "least", "most", "many", "Sum", "BY", "n23456789012345678901234", "n234567890123456789012345",
	`""`, `"x"`, `"v23456789012345678901234"`, `"v234567890123456789012345"`, `"\"`, "\"\n\"", `"("`, `"by"`,
}

// anySome is matchers as tokens.
func anySome(r *rand.Rand) []string {
	out := []string{"{"}
	for i := range r.IntN(4) {
		if i > 0 {
			out = append(out, ",")
		}
		out = append(out, oneOf(r, "a", "b", "job", "by", "sum"), oneOf(r, "=", "!=", "^=", "!^"), oneOf(r, `"x"`, `""`, `"a b"`, `"(1)"`, `"}"`))
	}
	return append(out, "}")
}

// anyQuestion is a question as tokens.
func anyQuestion(r *rand.Rand, deep int) []string {
	if deep == 0 || r.IntN(5) == 0 {
		switch r.IntN(3) {
		case 0:
			return []string{oneOf(r, "0", "1", "7", "10", "007", "999999999999999999")}
		case 1:
			return anySome(r)
		}
		return slices.Concat([]string{oneOf(r, "count", "sum", "min", "max", "delta"), "("}, anySome(r), []string{"[", oneOf(r, "0", "1", "10", "300", "1099511627776"), "]", ")"})
	}
	left := anyQuestion(r, deep-1)
	switch r.IntN(9) {
	case 0:
		return append([]string{"-"}, left...)
	case 1, 2:
		return slices.Concat([]string{"("}, left, []string{")"})
	case 3:
		return slices.Concat([]string{oneOf(r, "total", "least", "most", "many"), "("}, left, []string{")"})
	case 4:
		return slices.Concat([]string{oneOf(r, "total", "least", "most", "many"), "("}, left, []string{")", "by", "(", "a", ","}[:3+2*r.IntN(2)], []string{oneOf(r, "a", "b", "by"), ")"})
	}
	return slices.Concat(left, []string{oneOf(r, "+", "-", "*", "/")}, anyQuestion(r, deep-1))
}

// spread are tokens as a text, with blanks between where they must be, and where the dice say so.
func spread(r *rand.Rand, tokens []string) string {
	var b strings.Builder
	for i, t := range tokens {
		if i > 0 && glued(tokens[i-1], t) || r.IntN(3) == 0 {
			b.WriteString(oneOf(r, " ", " ", "  "))
		}
		b.WriteString(t)
	}
	if r.IntN(8) == 0 {
		b.WriteByte(' ')
	}
	return b.String()
}

// glued says whether two tokens would be others without a blank between.
func glued(a, b string) bool {
	l, wrong := modelTokens(a+b, 9)
	return wrong != noFault || len(l) != 2 || l[0].text != a
}
