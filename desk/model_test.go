package desk_test

// What chapter 14 says, once more: each row of its table is a pattern over the line's words, with one blank between them; numbers have no bound until they are looked at; the store is asked by its face.

import (
	"fmt"
	"math/big"
	"math/rand/v2"
	"regexp"
	"strings"
	"testing"

	"raingauge/api"
	"raingauge/ask"
	"raingauge/desk"
	"raingauge/disk"
	"raingauge/label"
	"raingauge/store"
)

type model struct {
	d      *disk.Disk
	s      *store.Store
	coming []api.Series
}

// said is what stands behind a line's first word.
type said struct {
	match []api.Matcher
	n     []int64
	rest  string
}

// form is a row of the table. In its words M is what is asked of labels, N a number, P pairs of these, W a word, T one or more.
type form struct {
	words string
	does  func(*model, said) (string, error)
}

func (f form) pattern() *regexp.Regexp {
	return regexp.MustCompile(`^` + signs.Replace(f.words) + `$`)
}

const aNumber = `(?:0|-?[1-9][0-9]*)`

var signs = strings.NewReplacer(
	"M", `([^ ]+)`,
	"N", `(`+aNumber+`)`,
	"P", `(`+aNumber+` `+aNumber+`(?: `+aNumber+` `+aNumber+`)*)`,
	"W", `([^ ]+)`,
	"T", `(.+)`,
)

var (
	forms    = table()
	patterns = func() (l []*regexp.Regexp) {
		for _, f := range forms {
			l = append(l, f.pattern())
		}
		return l
	}()
	word = regexp.MustCompile(`[^ ]+`)
)

func table() []form {
	return []form{
		{"put M P", (*model).put},
		{"add", (*model).add},
		{"drop", func(m *model, _ said) (string, error) { m.coming = nil; return "drop", nil }},
		{"cut N", func(m *model, g said) (string, error) { return "cut", m.s.Cut(g.n[0]) }},
		{"delete M N N", func(m *model, g said) (string, error) {
			return "delete", m.s.Delete(api.Gone{Match: g.match, From: g.n[0], To: g.n[1]})
		}},
		{"compact", func(m *model, g said) (string, error) { return "compact", m.s.Compact() }},
		{"retain N", func(m *model, g said) (string, error) {
			n, err := m.s.Retain(g.n[0])
			return fmt.Sprint("retain ", n), err
		}},
		{"select M N N", (*model).selects},
		{"rollup M N N N", (*model).rollup},
		{"ask N T", (*model).ask},
		{"print T", func(m *model, g said) (string, error) {
			q, err := ask.Parse(g.rest)
			return ask.Print(q), err
		}},
		{"values W", func(m *model, g said) (string, error) {
			l, err := m.s.Values(g.rest)
			return strings.TrimSpace("values " + strings.Join(l, " ")), err
		}},
		{"blocks", func(m *model, g said) (string, error) {
			numbers, to := m.s.Blocks()
			return "blocks" + spaced(numbers) + " to" + spaced(to), nil
		}},
		{"mark", func(m *model, g said) (string, error) { return fmt.Sprint("mark ", m.s.Mark()), nil }},
		{"state", func(m *model, g said) (string, error) {
			return fmt.Sprintf("state %t %d", m.s.Down(), len(m.coming)), nil
		}},
		{"power N", func(m *model, g said) (string, error) { m.d.Cut(bound(g.n[0])); return "power", nil }},
		{"crash N", func(m *model, g said) (_ string, err error) {
			m.d.Start(bound(g.n[0]))
			m.s, err = store.Open(m.d)
			return "crash", err
		}},
		{"help", func(*model, said) (string, error) {
			return "add ask blocks compact crash cut delete drop help mark power print put retain rollup select state values", nil
		}},
	}
}

func bound(n int64) int {
	switch {
	case n < -1:
		return -1
	case n > 1000:
		return 1000
	}
	return int(n)
}

func spaced(l []int64) (out string) {
	for _, n := range l {
		out += fmt.Sprint(" ", n)
	}
	return out
}

func (m *model) put(g said) (string, error) {
	var one api.Series
	for _, x := range g.match {
		if x.Op != api.Is {
			return "", api.ErrForm
		}
		one.Labels = append(one.Labels, api.Label{Name: x.Name, Value: x.Value})
	}
	for i := 0; i < len(g.n); i += 2 {
		one.Samples = append(one.Samples, api.Sample{Time: g.n[i], Value: g.n[i+1]})
	}
	m.coming = append(m.coming, one)
	return "put", nil
}

func (m *model) add(said) (string, error) {
	err := m.s.Append(m.coming)
	m.coming = nil
	return "add", err
}

func (m *model) selects(g said) (string, error) {
	l, err := m.s.Select(g.match, g.n[0], g.n[1])
	out := "select"
	for _, one := range l {
		out += " " + label.Text(one.Labels)
		for _, x := range one.Samples {
			out += fmt.Sprintf(" %d:%d", x.Time, x.Value)
		}
	}
	return out, err
}

func (m *model) rollup(g said) (string, error) {
	l, err := m.s.Rollup(g.match, g.n[0], g.n[1], g.n[2])
	out := "rollup"
	for _, one := range l {
		out += " " + label.Text(one.Labels)
		for _, b := range one.Buckets {
			out += fmt.Sprintf(" %d %d %d %d %d;", b.Start, b.Count, b.Sum, b.Min, b.Max)
		}
	}
	return out, err
}

func (m *model) ask(g said) (string, error) {
	q, err := ask.Parse(g.rest)
	if err != nil {
		return "", err
	}
	points, alone, err := m.s.Query(q, g.n[0])
	if err == nil && len(points) > 400 {
		err = api.ErrLimit
	}
	out := "ask"
	for _, p := range points {
		if alone {
			out += fmt.Sprintf(" %d", p.Value)
		} else {
			out += fmt.Sprintf(" %s %d", label.Text(p.Labels), p.Value)
		}
	}
	return out, err
}

// read is what stands there, by a form's words; an error, if a number is beyond 64 bits, and then if Match tells one.
func (f form) read(parts []string) (g said, err error) {
	for i, word := range strings.Fields(f.words)[1:] {
		if !strings.Contains("NP", word) {
			continue
		}
		for _, digits := range strings.Fields(parts[i+1]) {
			n, ok := new(big.Int).SetString(digits, 10)
			if !ok || !n.IsInt64() {
				return g, api.ErrForm
			}
			g.n = append(g.n, n.Int64())
		}
	}
	g.rest = parts[len(parts)-1]
	if strings.Contains(f.words, "M") {
		g.match, err = ask.Match(parts[1])
	}
	return g, err
}

func (m *model) answer(line string) string {
	words := word.FindAllString(line, -1)
	if words == nil {
		return "ok"
	}
	for i, f := range forms {
		parts := patterns[i].FindStringSubmatch(strings.Join(words, " "))
		if parts == nil {
			continue
		}
		g, err := f.read(parts)
		var answer string
		if err == nil {
			answer, err = f.does(m, g)
		}
		if err != nil {
			return fmt.Sprint("error ", int(api.Tell(err)))
		}
		return answer
	}
	return "error 3"
}

// cut is a text's lines: one begins behind each line feed, but for one at the end.
func cut(text string) (l []string) {
	begin := 0
	for i := range len(text) {
		if text[i] == '\n' {
			l = append(l, text[begin:i])
			begin = i + 1
		}
	}
	if begin < len(text) || l == nil {
		l = append(l, text[begin:])
	}
	return l
}

func modelSession(text string) string {
	if len(text) > 20000 {
		return "error 4\n"
	}
	m := &model{d: &disk.Disk{}}
	m.s, _ = store.Open(m.d)
	var out strings.Builder
	for _, line := range cut(text) {
		out.WriteString(m.answer(line) + "\n")
	}
	return out.String()
}

// check: Session says what the model says.
func check(t *testing.T, text string) {
	t.Helper()
	if got, want := desk.Session(text), modelSession(text); got != want {
		t.Errorf("%.3000q:\n%s", text, unlike(text, got, want))
	}
}

// unlike is the first line of which the answers are unlike.
func unlike(text, got, want string) string {
	asked, g, w := cut(text), strings.SplitAfter(got, "\n"), strings.SplitAfter(want, "\n")
	for i := range min(len(asked), len(g), len(w)) {
		if g[i] != w[i] {
			return fmt.Sprintf("line %d, %.300q: %.600q, not %.600q", i, asked[i], g[i], w[i])
		}
	}
	return fmt.Sprintf("%d answers, not %d, to %d lines", len(g)-1, len(w)-1, len(asked))
}

func drawn(seed uint64) *rand.Rand { return rand.New(rand.NewPCG(seed, 14)) }

func oneOf[T any](r *rand.Rand, l ...T) T { return l[r.IntN(len(l))] }

// drawnMatch is what is asked of labels, mostly right.
func drawnMatch(r *rand.Rand) string {
	return oneOf(r, `{}`, `{}`, `{a="x"}`, `{a="y"}`, `{a="x",b="1"}`, `{a!="x"}`, `{a^="",b!^"1"}`, `{b="2"}`, `{none=""}`, `{`, `{a}`, `{a="x" }`, `x`, `{`+strings.Repeat("a", 25)+`="x"}`)
}

// drawnQuestion is a question, mostly right.
func drawnQuestion(r *rand.Rand) string {
	some := drawnMatch(r)
	return oneOf(r, some, "1", "7 / 2", "1 / 0", "-"+some, some+" + "+some, some+"*2 - 1", "sum("+some+"[10])", "count( "+some+"[3] )", "delta({}[100])", "total("+some+")", "total("+some+")   by   (a)", "many({}) by (b, a)", "most(1)", "min({}[1099511627777])", "", "1 +", "---------1", "1234567890123456789")
}

func drawnNumber(r *rand.Rand, at int) string {
	if r.IntN(20) == 0 {
		return oneOf(r, "-0", "00", "01", "+1", "x", "9223372036854775807", "9223372036854775808", "-9223372036854775808", "-9223372036854775809", "1099511627776", "-1099511627777", "1_0", "0x1", "-", "1.0")
	}
	return fmt.Sprint(at + r.IntN(30) - 20)
}

// drawnLine is a line, mostly of right words; at is about which time it speaks of.
func drawnLine(r *rand.Rand, at int) string {
	n := func() string { return " " + drawnNumber(r, at) }
	m := func() string { return " " + drawnMatch(r) }
	span := func() string { return " " + drawnNumber(r, at-40) + n() }
	switch r.IntN(22) {
	case 0, 1, 2, 3:
		s := fmt.Sprintf(`put {a="%s",b="%d"}`, oneOf(r, "x", "y"), r.IntN(3))
		for i := range 1 + r.IntN(4) {
			s += fmt.Sprint(" ", at+i*2, " ", r.IntN(100)-50)
		}
		return s + oneOf(r, "", "", "", "", "", " 1")
	case 4, 5, 6, 7:
		return oneOf(r, "add", "add", "add", "add", "drop")
	case 8:
		return "cut" + n()
	case 9:
		return "delete" + m() + oneOf(r, span(), n()+n())
	case 10:
		return oneOf(r, "compact", "retain"+n())
	case 11, 12:
		return "select" + m() + span()
	case 13:
		return "rollup" + m() + span() + oneOf(r, " 1", " 5", " 10", " 0", " 1099511627777")
	case 14, 15:
		return "ask" + n() + " " + drawnQuestion(r)
	case 16:
		return "print " + drawnQuestion(r)
	case 17:
		return "values " + oneOf(r, "a", "b", "c", "1", "a b")
	case 18:
		return oneOf(r, "power", "crash") + oneOf(r, " -2", " -1", " 0", " 1", " 3", " 7", " 40", " 1000", " 1001", " x")
	case 19:
		return "crash" + oneOf(r, " 0", " 5", " 30", " 1000")
	case 20:
		return "put" + m() + n() + n()
	}
	return oneOf(r, "blocks", "mark", "state", "help", "", "zz", "add 1", "Help", "state\t", "\xff")
}

// wider is a line with more blanks.
func wider(r *rand.Rand, line string) string {
	gap := func(least int) string { return strings.Repeat(" ", least+r.IntN(3)) }
	out := gap(0)
	for i, part := range strings.Split(line, " ") {
		if i > 0 {
			out += gap(1)
		}
		out += part
	}
	return out + gap(0)
}

// drawnText is a text of lines.
func drawnText(r *rand.Rand) string {
	var l []string
	at := r.IntN(10)
	for range r.IntN(60) {
		line := drawnLine(r, at)
		if r.IntN(4) == 0 {
			line = wider(r, line)
		}
		l = append(l, line)
		at += r.IntN(4)
	}
	return strings.Join(l, "\n") + strings.Repeat("\n", r.IntN(3))
}
