package desk_test

import (
	"fmt"
	"regexp"
	"slices"
	"strings"
	"sync"
	"testing"

	"raingauge/ask"
	"raingauge/desk"
)

// 14.1, 13.3: select: of each series Text, and of each sample its time and value; nothing, one, many.
func TestSelect(t *testing.T) {
	wants(t, `
		select {} 0 9 => select
		put {b="y"} -5 -7 => put
		add => add
		select {} -9 9 => select {b="y"} -5:-7
		put {a="x",b="y"} 1 0 2 5 => put
		put {a="w"} 1 4 => put
		add => add
		select {} -9 9 => select {a="w"} 1:4 {a="x",b="y"} 1:0 2:5 {b="y"} -5:-7
		select {} 1 1 => select {a="w"} 1:4 {a="x",b="y"} 1:0
		select {} 2 9 => select {a="x",b="y"} 2:5
		select {} 3 9 => select
		select {} 9 -9 => select
		select {b="y"} -9 9 => select {a="x",b="y"} 1:0 2:5 {b="y"} -5:-7
		cut 1 => cut
		select {} -9 9 => select {a="w"} 1:4 {a="x",b="y"} 1:0 2:5 {b="y"} -5:-7
		put {a="x",b="y"} 3 6 => put
		add => add
		cut 3 => cut
		compact => compact
		select {} -9 9 => select {a="w"} 1:4 {a="x",b="y"} 1:0 2:5 3:6 {b="y"} -5:-7`)
	answer := last(t, many(401, 0)+"select {} 0 99")
	if n := strings.Count(answer, "{a="); n != 401 { // MaxAnswer is of points alone
		t.Errorf("select of 401 series tells %d", n)
	}
}

// 14.1, 13.3: rollup: of each series Text, and of each bucket five numbers, and ;. ErrArg: the span.
func TestRollup(t *testing.T) {
	wants(t, `
		rollup {} 0 9 10 => rollup
		rollup {} 0 9 0 => error 1
		rollup {} 0 9 -1 => error 1
		rollup {} 0 9 1099511627776 => rollup
		rollup {} 0 9 1099511627777 => error 1
		put {a="x"} -1 5 1 2 9 4 => put
		add => add
		rollup {} -9 9 10 => rollup {a="x"} -10 1 5 5 5; 0 2 6 2 4;
		rollup {} 0 9 10 => rollup {a="x"} 0 2 6 2 4;
		rollup {} 2 8 10 => rollup
		put {b="y"} 5 -9223372036854775808 6 -1 => put
		add => add
		rollup {} -9 9 10 => rollup {a="x"} -10 1 5 5 5; 0 2 6 2 4; {b="y"} 0 2 9223372036854775807 -9223372036854775808 -1;
		rollup {b="y"} -9 9 1 => rollup {b="y"} 5 1 -9223372036854775808 -9223372036854775808 -9223372036854775808; 6 1 -1 -1 -1;
		cut 5 => cut
		rollup {a="x"} -9 9 1099511627776 => rollup {a="x"} -1099511627776 1 5 5 5; 0 2 6 2 4;
		rollup {none="z"} -9 9 0 => error 1`)
}

// 14.1, 13.3: values and blocks: nothing, one, many. ErrArg: no name.
func TestValuesAndBlocks(t *testing.T) {
	wants(t, `
		values a => values
		blocks => blocks to
		put {a="x"} 1 1 => put
		values a => values
		add => add
		values a => values x
		values b => values
		put {a="y",b="2"} 2 1 => put
		put {a="Z",b="10"} 3 1 => put
		put {a="x",b="2"} 3 1 => put
		add => add
		values a => values Z x y
		values b => values 10 2
		values B => values
		cut 1 => cut
		blocks => blocks 0 to 1
		cut 2 => cut
		cut 3 => cut
		blocks => blocks 0 1 2 to 1 2 3
		values a => values Z x y
		retain 2 => retain 2
		blocks => blocks 2 to 3
		values a => values Z x
		cut 3 => cut
		cut -5 => cut
		blocks => blocks 2 to 3
		values 1 => error 1
		values 1a => error 1
		values a=b => error 1
		values é => error 1
		values {} => error 1
		values a" => error 1
		values aaaaaaaaaaaaaaaaaaaaaaaa => values
		values aaaaaaaaaaaaaaaaaaaaaaaaa => error 1
		values 99999999999999999999 => error 1
		values _ => values`)
	wantLast(t, "put {a=\"x\"} -1099511627776 1\nadd\ncut -1099511627776", "blocks 0 to -1099511627776", "blocks")
}

// 14.1: ask: of what is ALONE the number, if there is one; of points Text and the number; Parse's errors, then Query's.
func TestAsk(t *testing.T) {
	wants(t, `
		ask 5 {} => ask
		ask 5 total({}) => ask
		ask 5 7 => ask 7
		ask 5 -7 * 2 => ask -14
		ask 5 7 / 0 => ask
		ask 5 -(0 / 0) => ask
		put {a="x",b="1"} 1 5 3 6 => put
		put {a="x",b="2"} 2 9 => put
		put {a="y"} 4 -4 => put
		add => add
		ask 0 {} => ask
		ask 1 {} => ask {a="x",b="1"} 5
		ask 5 {} => ask {a="x",b="1"} 6 {a="x",b="2"} 9 {a="y"} -4
		ask 302 {} => ask {a="x",b="1"} 6 {a="y"} -4
		ask 304 {} => ask
		ask 5 {a="x"} + 1 => ask {a="x",b="1"} 7 {a="x",b="2"} 10
		ask 5 {a="y"} / 0 => ask
		ask 5 total({}) => ask {} 11
		ask 5 total({}) by (a) => ask {a="x"} 15 {a="y"} -4
		ask 5 many({}) by (b) => ask {} 1 {b="1"} 1 {b="2"} 1
		ask 5 sum({a="x"}[3]) - {} => ask {a="x",b="1"} 0
		ask 5 count({}[5]) * 2 => ask {a="x",b="1"} 4 {a="x",b="2"} 2 {a="y"} 2
		ask 5    {a="x"}   -    {b="1"} => ask {a="x",b="1"} 0
		ask 5 9223372036854775807 => error 4
		ask 5 999999999999999999 * 999999999999999999 => ask -7527149226598858751
		ask 1099511627776 1 => ask 1
		ask -1099511627776 1 => ask 1
		ask 1099511627777 1 => error 2
		ask -1099511627777 {} => error 2
		ask 1099511627777 1 + => error 3
		ask 1099511627777 total(1) => error 2
		ask 5 total(1) => error 1
		ask 5 most({} + total(2)) => error 1
		ask 5 x => error 3
		ask 5 1 + => error 3
		ask 5 1 1 => error 3
		ask 5 {a=x} => error 3
		ask 5 ---------1 => error 4
		ask 5 --------1 => ask 1
		ask 5 sum({}[1099511627777]) => error 4
		ask x 1 => error 3
		ask x ---------1 => error 3
		ask 05 ---------1 => error 3
		ask {} 5 => error 3`)
	for _, m := range formWrong[:10] {
		wantLast(t, "", "error 3", "ask 5 total("+m+")")
	}
	for _, m := range limitWrong {
		wantLast(t, "", "error 4", "ask 5 "+m)
		wantLast(t, "", "error 3", "ask x "+m)
	}
	wantLast(t, "", "error 4", "ask 5 1"+strings.Repeat(" + 1", 60))
	wantLast(t, "", "ask 60", "ask 5 1"+strings.Repeat(" + 1", 59))
}

// 14.1: ErrLimit: more than MaxAnswer points, behind all else that is told.
func TestMostPoints(t *testing.T) {
	for _, count := range []int{1, 399, 400, 401, 402, 500} {
		begin := many(count, 0)
		answer := last(t, begin+"ask 20 {}")
		if n := strings.Count(answer, "{a="); count <= 400 && n != count {
			t.Errorf("of %d series there are %d points", count, n)
		}
		if count > 400 && answer != "error 4" {
			t.Errorf("of %d series: %.100s", count, answer)
		}
		wantLast(t, begin, fmt.Sprint("ask {} ", count), "ask 20 total({})", "ask 20 many({}) by (none)", "ask 20 total({} * 1)")
		wantLast(t, begin, `ask {a="0"} 1`, `ask 20 {} * {a="0"}`)
		wantLast(t, begin, "error 1", "ask 20 {} + total(1)")
		wantLast(t, begin, "error 2", "ask 1099511627777 {}")
		if count > 400 {
			wantLast(t, begin, "error 4", "ask 20 many({}) by (a)", "ask 20 {} - 1", "ask 20 -{}", "ask 20 count({}[50]) / {}")
		}
	}
}

// 14.1: print: Print of Parse; its errors.
func TestPrint(t *testing.T) {
	wants(t, `
		print (total( sum({a="x"}[10])) by (b) - (3 * 2)) => total(sum({a="x"}[10])) by (b) - 3 * 2
		print 1 => 1
		print 007 => 7
		print -(  1 ) => -1
		print {} => {}
		print {a="x",b!="y",c^="z",d!^"w"} => {a="x",b!="y",c^="z",d!^"w"}
		print {a="x   y"} => {a="x y"}
		print total({})by(a,b) => total({}) by (a, b)
		print count({}[0]) => count({}[1])
		print total( 1 ) => total(1)
		print x => error 3
		print total => error 3
		print 1 + => error 3
		print {a} => error 3
		print " => error 3
		print $ => error 3
		print ( => error 3
		print 1234567890123456789 => error 4
		print ((((((((1)))))))) => 1
		print (((((((((1))))))))) => error 4
		print sum({}[1099511627777]) => error 4
		print total(1) by (a,b,c,d,e,f,g,h,i) => error 4`)
	for _, s := range slices.Concat(formWrong, limitWrong, []string{"1 + 2", "-{}", "least(-1) by (a)"}) {
		want := "error 3"
		if q, err := ask.Parse(s); err == nil {
			want = ask.Print(q)
		} else if slices.Contains(limitWrong, s) {
			want = "error 4"
		}
		wantLast(t, "", want, "print "+s)
		wantLast(t, "power 0\nadd", want, "print "+s)
	}
}

// 14.1: state, and mark, behind each of put, add, drop, a write that failed, and crash.
func TestState(t *testing.T) {
	wants(t, `
		state => state false 0
		mark => mark -1099511627777
		put {a="x"} 1 1 => put
		state => state false 1
		put {a="x"} 2 1 => put
		state => state false 2
		drop => drop
		state => state false 0
		put {a="x"} 1 1 => put
		add => add
		state => state false 0
		cut 0 => cut
		mark => mark 0
		put {a="x"} 0 1 => put
		add => error 10
		state => state false 0
		put {a="x"} 2 1 => put
		crash 0 => crash
		state => state false 1
		mark => mark 0
		power 0 => power
		state => state false 1
		cut 5 => error 14
		state => state true 1
		mark => mark 0
		put {a="x"} 3 1 => put
		state => state true 2
		power -1 => power
		state => state true 2
		cut 5 => error 6
		add => error 6
		state => state true 0
		put {a="x"} 4 1 => put
		crash 0 => crash
		state => state false 1
		add => add
		state => state false 0
		select {} 0 9 => select {a="x"} 1:1 4:1`)
}

// 14.1, 6.1: power: -1, 0, 1000, and beyond each: below -1 is -1, above 1000 is 1000.
func TestPower(t *testing.T) {
	changes := times(600, "add") + times(100, "put {a=\"x\"} 1 1", "add", "delete {} 1 1") + times(700, "add")
	session := func(n string) string { return "power " + n + "\n" + changes }
	for _, n := range []string{"-1", "-2", "-1000", "-1099511627777", "-9223372036854775808"} {
		text := session(n)
		check(t, text)
		if strings.Contains(desk.Session(text), "error") {
			t.Errorf("power %s: it goes off", n)
		}
	}
	thousand := desk.Session(session("1000"))
	if !strings.Contains(thousand, "error 14") {
		t.Fatal("behind a thousand changes the power is on")
	}
	for _, n := range []string{"1000", "1001", "1100", "5000", "2147483647", "2147483648", "4294967296", "4294967301", "9223372036854775807"} {
		text := session(n)
		check(t, text)
		if got := desk.Session(text); got != thousand {
			t.Errorf("power %s: not as power 1000: %s", n, unlike(text, got, thousand))
		}
	}
	for _, n := range []string{"0", "1", "2", "3", "7", "500", "900"} {
		text := session(n)
		check(t, text)
		if got := desk.Session(text); got == thousand || !strings.Contains(got, "error 14") {
			t.Errorf("power %s: it goes off with power 1000's", n)
		}
	}
	come := ""
	for at := range 550 {
		come += fmt.Sprintf("put {a=\"x\"} %d 1\nadd\n", at)
	}
	for n := 990; n <= 1010; n++ { // what was begun when the power went off may be kept: each change is to be seen
		check(t, fmt.Sprintf("power %d\n%scrash 1000\nselect {} 0 999", n, come))
	}
	wants(t, `
		power 0 => power
		power -1 => power
		add => add
		power 0 => power
		power 1000 => power
		add => add
		power 0 => power
		crash 0 => crash
		add => add
		power 0 => power
		add => error 14`)
}

// wide are lines that let series come at once that take about a thousand bytes: the last one has so many letters (8 to 192).
func wide(letters int) string {
	s := ""
	for i := range 7 {
		s += fmt.Sprintf("put {a=\"%024d\",b=\"%024d\"} %d %d\n", i, i, i, i)
	}
	s += "put "
	for i := range 8 {
		s += fmt.Sprintf("%c%c=\"%s\"", "{,,,,,,,"[i], 'a'+i, strings.Repeat("x", (letters+i)/8))
	}
	return s + "} 9 9\n"
}

// 14.1, 6.2: crash: -1, 0, 1000, and beyond each: likewise.
func TestCrash(t *testing.T) {
	rest := "\nstate\nselect {} 0 99\nmark\nblocks\n"
	for power := range 12 {
		begin := "put {a=\"x\"} 0 1\nadd\n" + wide(192) + fmt.Sprintf("power %d\nadd\ncut 5\n", power)
		answers := func(n string) string {
			text := begin + "crash " + n + rest
			check(t, text)
			return desk.Session(text)
		}
		for _, n := range []string{"-2", "-1000", "-9223372036854775808"} {
			if answers(n) != answers("-1") {
				t.Errorf("behind power %d crash %s is not as crash -1", power, n)
			}
		}
		for _, n := range []string{"1001", "5000", "4294967296", "9223372036854775807"} {
			if answers(n) != answers("1000") {
				t.Errorf("behind power %d crash %s is not as crash 1000", power, n)
			}
		}
		for _, n := range []string{"0", "1", "2", "10", "100", "999", "1000"} {
			if !strings.Contains(answers(n), "\ncrash\nstate false 0\n") {
				t.Errorf("behind power %d crash %s: it is not opened anew", power, n)
			}
		}
	}
	kept := 0
	for letters := 8; letters <= 192; letters++ { // a byte more each time: at one of them a thousand are too few
		for _, n := range []int{1000, 1001, 5000} {
			text := wide(letters) + fmt.Sprintf("power 1\nadd\ncrash %d\nselect {} 0 99", n)
			if last(t, text) != "select" {
				kept++
			}
		}
	}
	if kept == 0 || kept == 185*3 {
		t.Errorf("what may be kept is kept %d times", kept)
	}
}

// look is lines that tell all that there is.
const look = "select {} -9223372036854775808 9223372036854775807\nblocks\nmark\nvalues a\nstate"

// lookAt is what they are answered behind some lines.
func lookAt(lines string) string {
	all := desk.Session(lines + "\n" + look)
	l := strings.Split(strings.TrimSuffix(all, "\n"), "\n")
	return strings.Join(l[len(l)-5:], "\n")
}

// 14.1, 13.4: behind a crash there is all that was done, and of what failed all, or nothing, wherever the power went off, whatever was kept.
func TestAllOrNothing(t *testing.T) {
	begin := "put {a=\"x\"} 1 1 2 2\nput {a=\"y\"} 2 3\nadd\ncut 1\nput {a=\"y\"} 5 5\nadd\ncut 2\ndelete {a=\"x\"} 1 1"
	for _, line := range []string{"put {a=\"z\"} 6 6\nput {a=\"x\"} 7 7\nadd", "cut 5", "cut 4", `delete {a="y"} 0 9`, "compact", "retain 1"} {
		before, after := lookAt(begin), lookAt(begin+"\n"+line)
		failed := 0
		for power := range 30 {
			for _, keeps := range []int{-1, 0, 1, 2, 5, 9, 17, 40, 1000} {
				text := fmt.Sprintf("%s\npower %d\n%s\ncrash %d\n%s", begin, power, line, keeps, look)
				check(t, text)
				got := lookAt(fmt.Sprintf("%s\npower %d\n%s\ncrash %d", begin, power, line, keeps))
				if off := strings.Contains(desk.Session(text), "error 14"); off {
					failed++
				} else if got != after {
					t.Errorf("%s is done, but behind power %d and crash %d there is %s, not %s", line, power, keeps, got, after)
				}
				if got != before && got != after {
					t.Errorf("%s: behind power %d and crash %d there is %s, neither %s nor %s", line, power, keeps, got, before, after)
				}
			}
		}
		if failed == 0 || failed == 30*9 {
			t.Errorf("%s failed %d times", line, failed)
		}
	}
}

// 14.1: help tells just the words that lines may begin with.
func TestHelp(t *testing.T) {
	wantAnswers(t, "help\n help \nhelp help\nhelp 1", help, help, "error 3", "error 3")
	var l []string
	for _, line := range lines() {
		l = append(l, strings.Fields(line)[0])
	}
	slices.Sort(l)
	if strings.Join(l, " ") != help {
		t.Errorf("%q are not the words of help", l)
	}
}

// 14.1: each line is answered by a line.
func TestEachLineIsAnswered(t *testing.T) {
	form := regexp.MustCompile(`^([ -~]+\n)+$`)
	for seed := range uint64(300) {
		text := drawnText(drawn(seed))
		answer := desk.Session(text)
		if got, want := strings.Count(answer, "\n"), len(cut(text)); got != want || !form.MatchString(answer) {
			t.Errorf("%q: %d answers to %d lines: %q", text, got, want, answer)
		}
	}
}

// 14.1: many sessions, held against the model.
func TestDrawn(t *testing.T) {
	for seed := range uint64(4000) {
		check(t, drawnText(drawn(seed)))
	}
}

// 14.1: texts of any bytes.
func TestAnyBytes(t *testing.T) {
	pieces := []string{"\n", "\n", " ", " ", "put", "add", "ask", "print", "select", "cut", "{}", `{a="x"}`, "1", "-", "0", "9", "\x00", "\xff", "\xc3", "é", "\t", `"`, "{", "}", "+", "(", "values", "a"}
	for seed := range uint64(2000) {
		r := drawn(seed)
		text := ""
		for range r.IntN(60) {
			text += oneOf(r, pieces...) + oneOf(r, "", " ", " ")
		}
		check(t, text)
	}
	for c := range 256 {
		s := string([]byte{byte(c)})
		for _, text := range []string{s, "help" + s, s + "help", "help " + s, "cut " + s, "cut 1" + s, "cut " + s + "1", "values " + s, "ask 1 1" + s, "select {" + s + "} 0 9", "print " + s} {
			check(t, text)
		}
	}
}

// 14.1: the answers to the first lines are the beginning of the answers to all.
func TestBeginnings(t *testing.T) {
	for seed := range uint64(100) {
		l := cut(drawnText(drawn(seed)))
		all := desk.Session(strings.Join(l, "\n") + "\n")
		for n := 1; n <= len(l); n++ {
			first := desk.Session(strings.Join(l[:n], "\n") + "\n")
			if !strings.HasPrefix(all, first) || strings.Count(first, "\n") != n {
				t.Fatalf("seed %d: the answers to the first %d lines are not the beginning: %q", seed, n, first)
			}
			if again := desk.Session(strings.Join(l[:n], "\n")); again != first && l[n-1] != "" {
				t.Fatalf("seed %d: without a line feed at the end of %d lines it is %q", seed, n, again)
			}
		}
	}
}

// 14.1, P4: there is a new disk at first: sessions know nothing of each other, one behind the other, and at the same time.
func TestAnew(t *testing.T) {
	want := map[string]string{}
	for seed := range uint64(60) {
		text := drawnText(drawn(seed))
		want[text] = desk.Session(text)
	}
	var group sync.WaitGroup
	for range 8 {
		group.Go(func() {
			for text, answer := range want {
				if got := desk.Session(text); got != answer {
					t.Errorf("%.2000q: another time: %s", text, unlike(text, got, answer))
				}
			}
		})
	}
	group.Wait()
}

// P1: sessions that ask for much end.
func TestMuch(t *testing.T) {
	for _, begin := range []string{puts(`{a="x"}`, 0, 1300), many(300, 0)} {
		for _, line := range []string{"add", "cut 0", "crash 0", "select {} 0 9999", "rollup {} 0 9999 1", "ask 20 {}+{}", "retain -5", "values a", "delete {} 5 5"} {
			text := begin + strings.Repeat(line+"\n", (20000-len(begin))/(len(line)+1))
			if got, want := strings.Count(desk.Session(text), "\n"), strings.Count(text, "\n"); got != want {
				t.Errorf("%s: %d answers to %d lines", line, got, want)
			}
		}
	}
}
