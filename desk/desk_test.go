package desk_test

import (
	"fmt"
	"strings"
	"testing"

	"raingauge/desk"
)

// The head of the chapter's function.
var _ func(text string) string = desk.Session

const help = "add ask blocks compact crash cut delete drop help mark power print put retain rollup select state values"

// wants: a session, each line with " => " and its answer; the model answers so, too.
func wants(t *testing.T, session string) {
	t.Helper()
	var asked, want []string
	for row := range strings.SplitSeq(strings.Trim(session, "\n"), "\n") {
		line, answer, there := strings.Cut(strings.TrimLeft(row, "\t"), " => ")
		if !there {
			t.Fatalf("no answer to %q", row)
		}
		asked, want = append(asked, line), append(want, answer)
	}
	text := strings.Join(asked, "\n")
	wantAnswers(t, text, want...)
	check(t, text)
}

// wantAnswers: a text is answered so, a line each.
func wantAnswers(t *testing.T, text string, answers ...string) {
	t.Helper()
	want := strings.Join(answers, "\n") + "\n"
	if got := desk.Session(text); got != want {
		t.Errorf("%.3000q:\n%s", text, unlike(text, got, want))
	}
}

// last is what the last line of a text is answered, which the model says, too.
func last(t *testing.T, text string) string {
	t.Helper()
	check(t, text)
	l := strings.Split(strings.TrimSuffix(desk.Session(text), "\n"), "\n")
	return l[len(l)-1]
}

// wantLast: behind some lines each of these is answered so.
func wantLast(t *testing.T, begin string, want string, lines ...string) {
	t.Helper()
	for _, line := range lines {
		if got := last(t, begin+"\n"+line); got != want {
			t.Errorf("behind %.300q %.300q: %.300q, not %.300q", begin, line, got, want)
		}
	}
}

// times is a line, again and again.
func times(n int, lines ...string) string { return strings.Repeat(strings.Join(lines, "\n")+"\n", n) }

// puts are lines that let many samples of one series come, a sample at each time from 0 on.
func puts(labels string, from, count int) string {
	var b strings.Builder
	for i := from; i < from+count; i += 40 {
		b.WriteString("put " + labels)
		for at := i; at < min(i+40, from+count); at++ {
			fmt.Fprint(&b, " ", at, " 0")
		}
		b.WriteString("\nadd\n")
	}
	return b.String()
}

// many are lines that let so many series come, each with one sample at a time; what they say is put away by thirties.
func many(count, at int) string {
	var b strings.Builder
	for i := range count {
		fmt.Fprintf(&b, "put {a=\"%d\"} %d 1\n", i, at+i/30)
		if i%30 == 29 || i == count-1 {
			fmt.Fprintf(&b, "add\ncut %d\n", at+i/30)
		}
	}
	return b.String()
}

// 14.1: a text of MaxText bytes is answered; of one more (also a line feed at its end) it is error 4, whatever stands in it.
func TestMostBytes(t *testing.T) {
	for _, line := range []string{"help", "x", "\n", "state\n", "\xff", "é", " "} {
		text := strings.Repeat(line, 20000/len(line)+1)[:20000]
		check(t, text)
		if strings.HasPrefix(desk.Session(text), "error 4") {
			t.Errorf("20000 bytes of %q are too many", line)
		}
		for _, more := range []string{"\n", " ", "x", text} {
			wantAnswers(t, text+more, "error 4")
		}
		check(t, text[:19999])
	}
	wantAnswers(t, "state"+strings.Repeat(" ", 19995), "state false 0")
	wantAnswers(t, strings.Repeat("\n", 20000), strings.Split(strings.TrimSpace(strings.Repeat("ok ", 20000)), " ")...)
	wantAnswers(t, strings.Repeat("mark\n", 4000)+"mark\n", "error 4")
	wantAnswers(t, strings.Repeat("mark\n", 4000), strings.Split(strings.TrimSuffix(strings.Repeat("mark -1099511627777,", 4000), ","), ",")...)
	wantAnswers(t, strings.Repeat("x", 1<<20), "error 4")
}

// 14.1: cut at line feeds; one at the text's end is left out; the empty text is one line.
func TestLines(t *testing.T) {
	mark := "mark -1099511627777"
	for text, want := range map[string][]string{
		"": {"ok"}, "\n": {"ok"}, "\n\n": {"ok", "ok"}, "\n\n\n": {"ok", "ok", "ok"},
		"mark": {mark}, "mark\n": {mark}, "mark\n\n": {mark, "ok"}, "mark\n\n\n": {mark, "ok", "ok"}, "\nmark": {"ok", mark}, "\nmark\n": {"ok", mark},
		"mark\nmark": {mark, mark}, "mark\n\nmark\n": {mark, "ok", mark}, "mark\nx\nstate": {mark, "error 3", "state false 0"},
		" ": {"ok"}, " \n": {"ok"}, " \n ": {"ok", "ok"}, "\n ": {"ok", "ok"}, "mark\r\nmark": {"error 3", mark}, "mark\x00": {"error 3"}, "mark\vmark": {"error 3"},
	} {
		wantAnswers(t, text, want...)
		check(t, text)
	}
	for n := range 50 {
		want := max(n, 1)
		if got := desk.Session(strings.Repeat("\n", n)); got != strings.Repeat("ok\n", want) {
			t.Errorf("%d line feeds: %q", n, got)
		}
		if got := desk.Session(strings.Repeat("\n", n) + "x"); got != strings.Repeat("ok\n", n)+"error 3\n" {
			t.Errorf("%d line feeds, and a word: %q", n, got)
		}
	}
}

// 14.1: words with blanks between, several, too, and at both ends; a line without words is ok; nothing else is a blank.
func TestBlanks(t *testing.T) {
	for n := range 30 {
		gap := strings.Repeat(" ", n)
		wantAnswers(t, gap, "ok")
		wantAnswers(t, gap+"state"+gap, "state false 0")
		wantAnswers(t, gap+"select "+gap+"{} "+gap+"0 "+gap+"9"+gap, "select")
		wantAnswers(t, gap+"ask "+gap+"5 "+gap+"1 "+gap+"+ "+gap+"2"+gap, "ask 3")
		wantAnswers(t, "print "+gap+"{a=\"x "+gap+"y\"} "+gap+"+ "+gap+"2"+gap, `{a="x y"} + 2`)
	}
	for _, sign := range []string{"\t", "\r", "\v", "\f", "\x00", "\u0085", "\u00a0", "\u2003", "\u3000", "\ufeff", "\xff", "_", ",", ";"} {
		wantAnswers(t, strings.Join([]string{sign, "state" + sign, sign + "state", "cut" + sign + "5", "cut 5" + sign, "cut " + sign + " 5", sign + " state", "ask 1" + sign + "2", "ask 5 1 " + sign}, "\n"),
			"error 3", "error 3", "error 3", "error 3", "error 3", "error 3", "error 3", "error 3", "error 3")
	}
}

// 14.1: a first word that is none of the table's.
func TestNoSuchWord(t *testing.T) {
	for _, line := range []string{"x", "ok", "error", "error 3", "..", "-", "0", "5", "-1", "{}", "Help", "HELP", "hel", "helps", "put{}", "puts {} 1 2", "ad", "adds", "Add", "open", "start 0", "query 5 1", "append", "list", "selects {} 0 9", "down", "power-1", "N", "M", "put,add", "\"help\"", "help.", "a\x00", "\xffhelp", "é"} {
		wantAnswers(t, line, "error 3")
		wantAnswers(t, line+" 1 2 3\nstate", "error 3", "state false 0")
		check(t, line)
	}
}

// lines are right, one of each row of the table.
func lines() []string {
	return []string{`put {a="x"} 1 2`, "add", "drop", "cut 5", `delete {a="x"} 0 9`, "compact", "retain 5", "select {} 0 9", "rollup {} 0 9 10", "ask 5 {}", "print 1", "values a", "blocks", "mark", "state", "power -1", "crash 0", "help"}
}

// 14.1: just so many words stand behind the first one as are told: one too few, one too many; of .. one and more.
func TestHowManyWords(t *testing.T) {
	begin := "put {a=\"x\"} 1 2\nadd\ncut 1"
	for _, line := range lines() {
		if answer := last(t, begin+"\n"+line); strings.HasPrefix(answer, "error") {
			t.Errorf("%s: %s", line, answer)
		}
		words := strings.Fields(line)
		for n := 1; n < len(words); n++ {
			wantLast(t, begin, "error 3", strings.Join(words[:n], " "))
		}
		for _, more := range []string{" 1", " 0", " x", " {}", " 1 2 3", " add"} {
			wantLast(t, begin, "error 3", line+more)
		}
	}
	wants(t, `
		put {a="x"} 1 2 => put
		add now => error 3
		state => state false 1
		drop it => error 3
		state => state false 1
		add => add
		cut 1 1 => error 3
		mark => mark -1099511627777
		compact all => error 3
		delete {} 1 => error 3
		delete {} 1 1 1 => error 3
		select {} 0 9 => select {a="x"} 1:2
		crash => error 3
		power => error 3
		power 0 0 => error 3
		ask 5 => error 3
		ask => error 3
		print => error 3
		values => error 3
		values a a => error 3
		blocks => blocks to
		ask 5 1+1 => ask 2
		ask 5 1 + 1 => ask 2
		ask 5 1 + 1 + 1 + 1 + 1 + 1 + 1 + 1 + 1 => ask 9
		print 1+1 => 1 + 1
		print 1 + 1 => 1 + 1
		print 1 + 1 - 1 * 1 / 1 => 1 + 1 - 1 * 1 / 1
		help me => error 3
		help => `+help)
}

// 14.1: numbers: decimal, perhaps with -, no nought ahead, of 64 bits.
func TestNumbers(t *testing.T) {
	right := []string{"0", "1", "-1", "9", "10", "-10", "100", "1099511627776", "-1099511627777", "9223372036854775806", "9223372036854775807", "-9223372036854775807", "-9223372036854775808"}
	wrong := []string{"-", "--1", "+", "+1", "+0", "-0", "-00", "00", "01", "-01", "007", "1-", "1-1", "9223372036854775808", "-9223372036854775809", "18446744073709551615", "18446744073709551616", "-18446744073709551616", "99999999999999999999999999", "1.0", "1.", ".5", "1e3", "0x1", "0b1", "0o7", "1_000", "1,000", "x", "1x", "x1", "a", "{}", `"1"`, "٣", "１", "1\t", "\x001", "\xff", "NaN", "..", "N"}
	for _, line := range []string{`put {a="x"} # 2`, `put {a="x"} 1 #`, `put {a="x"} 1 2 # 4`, `put {a="x"} 1 2 3 #`, "cut #", "delete {} # 9", "delete {} 0 #", "retain #", "select {} # 9", "select {} 0 #", "rollup {} # 9 10", "rollup {} 0 # 10", "rollup {} 0 9 #", "ask # 1", "power #", "crash #"} {
		for _, n := range right {
			if answer := last(t, strings.ReplaceAll(line, "#", n)); answer == "error 3" {
				t.Errorf("%s with %s: %s", line, n, answer)
			}
		}
		for _, n := range wrong {
			text := strings.ReplaceAll(line, "#", n)
			wantLast(t, "", "error 3", text)
			wantLast(t, "power 0\nadd", "error 3", text) // a store that is Down: error 6 else
		}
	}
	wants(t, `
		put {a="x"} 0 9223372036854775807 1 -9223372036854775808 2 0 => put
		put {a="x"} 3 9223372036854775808 => error 3
		add => add
		select {} -9223372036854775808 9223372036854775807 => select {a="x"} 0:9223372036854775807 1:-9223372036854775808 2:0
		select {} 9223372036854775807 -9223372036854775808 => select
		select {} 1 1 => select {a="x"} 1:-9223372036854775808
		cut -1 => cut
		mark => mark -1
		retain -9223372036854775808 => retain 0`)
}

// Words for M: error 3, and error 4, by Match.
var (
	formWrong  = []string{"x", "{", "}", "{}}", "{}{}", "a", "{a}", "{a=}", `{a="x}`, `{a="x"`, `{a="x",}`, `{,a="x"}`, `{a="x"b="y"}`, `{a:"x"}`, `{a=="x"}`, `{1="x"}`, `{"a"="x"}`, `{a=x}`, `{a="x"}+1`, "1", "0", "-1", "sum({}[1])", "()", `{a="x";b="y"}`, "{é=\"x\"}", "\xff", "{\t}", `{a!"x"}`, `{a^"x"}`}
	limitWrong = []string{`{` + strings.Repeat("a", 25) + `="x"}`, `{a="` + strings.Repeat("x", 25) + `"}`, `{a="\"}`, "{a=\"\t\"}", "{a=\"é\"}", "{a=\"\x7f\"}", `{a="1",a="1",a="1",a="1",a="1",a="1",a="1",a="1",a="1"}`, `{a="x",b="` + strings.Repeat("x", 25) + `"}`, "{1234567890123456789}", "{" + strings.Repeat("}", 120)}
)

// 14.1: M's errors are Match's, behind the numbers, ahead of all that is told.
func TestMatchers(t *testing.T) {
	for _, line := range []string{"put # 1 2", "delete # 0 9", "select # 0 9", "rollup # 0 9 10"} {
		for i, l := range [][]string{formWrong, limitWrong} {
			for _, m := range l {
				text := strings.ReplaceAll(line, "#", m)
				wantLast(t, "", []string{"error 3", "error 4"}[i], text)
				wantLast(t, "power 0\nadd", []string{"error 3", "error 4"}[i], text)
				short := text[:strings.LastIndex(text, " ")]
				wantLast(t, "", "error 3", text+" 1", short, short+" x", short+" 00") // words, and numbers, are looked at first
			}
		}
		wantLast(t, "", "error 3", strings.ReplaceAll(line, "#", `{a="x y"}`), strings.ReplaceAll(line, "#", `{ }`)) // a word has no blank
	}
	for _, span := range []string{"0", "-1", "1099511627777"} {
		wantLast(t, "", "error 4", "rollup "+limitWrong[0]+" 0 9 "+span)
		wantLast(t, "", "error 1", "rollup {} 0 9 "+span)
	}
	wantLast(t, times(200, "delete {} 0 0"), "error 4", "delete "+limitWrong[0]+" 0 0")
	wantLast(t, times(200, "delete {} 0 0"), "error 12", "delete {} 0 0")
	wants(t, `
		put {a="x1",b="y"} 1 1 => put
		put {a="x2",b="z"} 1 2 => put
		put {a="w",c="!#$%&'()*+,-./:;<=>?@"} 1 3 => put
		add => add
		select {a^="x",b!="z"} 0 9 => select {a="x1",b="y"} 1:1
		select {a^="x",b="z",c="",none=""} 0 9 => select {a="x2",b="z"} 1:2
		select {a!^"x",b=""} 0 9 => select {a="w",c="!#$%&'()*+,-./:;<=>?@"} 1:3
		select {a="w",a="x1"} 0 9 => select
		select {a!="",a!="",a!="",a!="",a!="",a!="",a!="",b="y"} 0 9 => select {a="x1",b="y"} 1:1
		rollup {b!^"y",a!="w"} 0 9 10 => rollup {a="x2",b="z"} 0 1 2 2 2;
		delete {a^="x",b!="y"} 0 9 => delete
		select {} 0 9 => select {a="w",c="!#$%&'()*+,-./:;<=>?@"} 1:3 {a="x1",b="y"} 1:1`)
}

// 14.1: put: two N at least, an even number; labels as M, with = alone; what is refused is not about to come.
func TestPut(t *testing.T) {
	wants(t, `
		state => state false 0
		put => error 3
		put {a="x"} => error 3
		put {a="x"} 1 => error 3
		put {a="x"} 1 2 3 => error 3
		put {a="x"} 1 2 3 4 5 => error 3
		put {a!="x"} 1 2 => error 3
		put {a^="x"} 1 2 => error 3
		put {a!^"x"} 1 2 => error 3
		put {a="x",b!="y"} 1 2 => error 3
		put {a="x",b^="y"} 1 2 => error 3
		put {a="x",b!^"y",c="z"} 1 2 => error 3
		put {a!=""} 1 2 => error 3
		state => state false 0
		put {a="x"} 1 2 => put
		state => state false 1
		put {a="x"} 2 3 3 4 4 5 5 6 6 7 7 8 => put
		put {b="y"} 1 2 => put
		state => state false 3
		select {} 0 9 => select
		put {b="y"} 1 x => error 3
		state => state false 3
		add => add
		state => state false 0
		select {} 0 9 => select {a="x"} 1:2 2:3 3:4 4:5 5:6 6:7 7:8 {b="y"} 1:2
		put {} 1 2 => put
		add => error 1
		put {a=""} 1 2 => put
		add => error 1
		put {b="y",a="x"} 9 2 => put
		add => error 1
		put {a="x",a="x"} 9 2 => put
		add => error 1
		put {a="x"} 9 2 8 2 => put
		add => error 1
		put {a="x"} 9 2 9 2 => put
		add => error 1
		put {a="x"} 1099511627777 2 => put
		add => error 1
		select {} 0 9 => select {a="x"} 1:2 2:3 3:4 4:5 5:6 6:7 7:8 {b="y"} 1:2
		put {a="1",b="2",c="3",d="4",e="5",f="6",g="7",h="8"} 9 9 => put
		add => add
		select {h="8"} 0 9 => select {a="1",b="2",c="3",d="4",e="5",f="6",g="7",h="8"} 9:9`)
	for _, begin := range []string{"power 0", "power 0\nadd"} { // nothing is written
		wantLast(t, begin, "put", `put {a="x"} 1 2`)
	}
	for n := range 60 { // any number of pairs: what is too much add tells
		line := `put {a="x"}` + strings.Repeat(" 1 1", n)
		wantLast(t, "", []string{"put", "error 3"}[max(0, 1-n)], line)
		wantLast(t, "", "error 3", line+" 1")
		wantLast(t, times(n, `put {a="x"} 1 1`), fmt.Sprint("state false ", n), "state")
	}
}

// 14.1: add and drop: nothing is about to come then, in any case; several series come at once, all or none.
func TestAddAndDrop(t *testing.T) {
	wants(t, `
		add => add
		drop => drop
		state => state false 0
		put {a="x"} 1 2 => put
		drop => drop
		state => state false 0
		add => add
		select {} 0 9 => select
		put {a="x"} 5 2 => put
		put {b="y"} 5 2 => put
		add => add
		state => state false 0
		select {} 0 9 => select {a="x"} 5:2 {b="y"} 5:2
		put {a="x"} 6 3 => put
		put {b="y"} 4 3 => put
		add => error 10
		state => state false 0
		add => add
		drop => drop
		select {} 0 9 => select {a="x"} 5:2 {b="y"} 5:2
		put {a="x"} 6 3 => put
		put {a="x"} 7 4 => put
		state => state false 2
		add => add
		select {} 0 9 => select {a="x"} 5:2 6:3 7:4 {b="y"} 5:2
		put {a="x"} 8 1 => put
		cut 5 => cut
		delete {a="x"} 6 6 => delete
		compact => compact
		retain 0 => retain 0
		crash 0 => crash
		state => state false 1
		add => add
		select {} 0 9 => select {a="x"} 5:2 7:4 8:1 {b="y"} 5:2`)
	for _, power := range []string{"power 0", "power 1", "power 0\nadd"} { // refused by the disk, or since it is Down
		begin := `put {a="x"} 1 2` + "\n" + power + "\n" + `put {b="y"} 1 2` + "\nadd"
		wantLast(t, begin, "state true 0", "state")
		wantLast(t, begin, "error 6", "add")
		wantLast(t, begin, "drop", "drop")
		wantLast(t, begin+"\n"+`put {b="y"} 1 2`, "state true 1", "state")
		wantLast(t, begin+"\n"+`put {b="y"} 1 2`+"\ndrop", "state true 0", "state")
		wantLast(t, begin+"\n"+`put {b="y"} 1 2`+"\nadd", "state true 0", "state")
	}
}

// 14.1, 13.2: each error of Append's by its line.
func TestAddRefused(t *testing.T) {
	forty, sixty := `put {a="x"}`, ""
	for i := range 40 {
		forty += fmt.Sprint(" ", i, " 1")
	}
	for i := range 60 {
		sixty += fmt.Sprintf("put {n=\"%d\"} 5 1\n", i)
		if i%20 == 19 {
			sixty += "add\n"
		}
	}
	wantLast(t, forty, "add", "add")
	wantLast(t, forty+" 40 1", "error 4", "add")
	wantLast(t, forty+"\n"+`put {b="y"} 1 1`, "error 4", "add")
	wantLast(t, "put {} 1 1", "error 1", "add")
	wantLast(t, "put {} 1 1\nadd\n"+`put {a="x"} 1 1`, "add", "add")
	wantLast(t, "cut 5\n"+`put {a="x"} 5 1`, "error 10", "add")
	wantLast(t, "cut 5\n"+`put {a="x"} 6 1`, "add", "add")
	wantLast(t, `put {a="x"} 6 1`+"\nadd\n"+`put {a="x"} 6 1`, "error 10", "add")
	wantLast(t, sixty+`put {n="60"} 5 1`, "error 12", "add")
	wantLast(t, sixty+`put {n="59"} 6 1`, "add", "add")
	wantLast(t, sixty+"cut 5\n"+`put {n="60"} 6 1`, "add", "add")
	for _, away := range []string{"", "cut 999\n", "cut 1999\n", "cut 1999\ncompact\n"} { // in the Head, and put away
		full := puts(`{a="x"}`, 0, 2000) + away
		wantLast(t, full+`put {a="x"} 2000 1`, "error 12", "add")
		wantLast(t, full+`put {a="y"} 2000 1`, "add", "add")
		wantLast(t, full+"delete {} 7 7\n"+`put {a="x"} 2000 1`, "add", "add")
		wantLast(t, full+"delete {} 7 7\n"+`put {a="x"} 2000 1 2001 1`, "error 12", "add")
	}
}

// 14.1, 13.2: cut, delete, compact, retain: their words, and each of their errors.
func TestChanges(t *testing.T) {
	wants(t, `
		compact => error 7
		retain 9223372036854775807 => retain 0
		cut 5 => cut
		mark => mark 5
		blocks => blocks to
		cut 1099511627777 => error 2
		cut -1099511627777 => error 2
		cut -1099511627776 => cut
		mark => mark 5
		put {a="x"} 6 1 7 2 8 3 9 4 => put
		put {b="y"} 6 1 9 1 => put
		add => add
		cut 6 => cut
		blocks => blocks 0 to 6
		cut 8 => cut
		cut 9 => cut
		blocks => blocks 0 1 2 to 6 8 9
		delete {a="x"} 7 8 => delete
		select {} 0 9 => select {a="x"} 6:1 9:4 {b="y"} 6:1 9:1
		delete {a="x"} 9 7 => delete
		delete {none="x"} 0 9 => delete
		retain 5 => retain 0
		retain 8 => retain 2
		blocks => blocks 2 to 9
		select {} 0 9 => select {a="x"} 9:4 {b="y"} 9:1
		compact => compact
		blocks => blocks 3 to 9
		retain 8 => retain 0
		retain 9 => retain 1
		retain 9 => retain 0
		blocks => blocks to
		compact => error 7
		mark => mark 9
		cut 1099511627776 => cut
		mark => mark 1099511627776`)
	thirty := ""
	for i := range 30 {
		thirty += fmt.Sprintf("put {a=\"x\"} %d 1\nadd\ncut %d\n", i, i)
	}
	wantLast(t, thirty, "error 12", "cut 30", "cut 0")
	wantLast(t, thirty, "error 2", "cut 1099511627777")
	wantLast(t, thirty+"retain 0", "cut", "cut 30")
	wantLast(t, thirty+"compact", "cut", "cut 30")
	wantLast(t, thirty, "retain 30", "retain 29")
	wantLast(t, thirty+"compact", "blocks 30 to 29", "blocks")
	gone := times(200, "delete {} 0 0")
	wantLast(t, gone, "error 12", "delete {} 0 0", `delete {a="x"} 5 6`)
	wantLast(t, `put {a="x"} 1 1`+"\nadd\ncut 1\n"+gone+"compact", "delete", "delete {} 0 0")
	wantLast(t, times(199, "delete {} 0 0"), "delete", "delete {} 0 0")
}

// 14.1, 13.1: without power what changes something is error 14, and behind that error 6; what is asked is answered still.
func TestNoPower(t *testing.T) {
	begin := "put {a=\"x\"} 1 1 5 2\nadd\ncut 1\nput {a=\"x\"} 6 1\n"
	for _, line := range []string{"add", "cut 5", "delete {} 0 9", "compact", "retain 1"} {
		wantLast(t, begin+"power 0", "error 14", line)
		wantLast(t, begin+"power 0", "state false 1", "state")
		down := begin + "power 0\n" + line
		wantLast(t, down, "error 6", "add", "cut 5", "delete {} 0 9", "compact", "retain 1")
		wantLast(t, down+"\npower -1", "error 6", "add", "cut 5", "delete {} 0 9", "compact", "retain 1")
		wantLast(t, down, `select {a="x"} 1:1 5:2`, "select {} 0 9")
		wantLast(t, down, `rollup {a="x"} 0 2 3 1 2;`, "rollup {} 0 9 10")
		wantLast(t, down, `ask {a="x"} 3`, "ask 9 sum({}[9])")
		wantLast(t, down, "values x", "values a")
		wantLast(t, down, "blocks 0 to 1", "blocks")
		wantLast(t, down, "mark 1", "mark")
		wantLast(t, down, map[bool]string{true: "state true 0", false: "state true 1"}[line == "add"], "state")
		wantLast(t, down, help, "help")
		wantLast(t, down+"\ncrash 0", map[bool]string{true: "state false 0", false: "state false 1"}[line == "add"], "state")
		wantLast(t, down+"\ncrash 0\nadd", "cut", "cut 9")
	}
}
