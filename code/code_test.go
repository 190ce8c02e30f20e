package code_test

import (
	"fmt"
	"math"
	"slices"
	"strings"
	"testing"

	"raingauge/api"
	"raingauge/chunk"
	"raingauge/code"
)

// The heads of the chapter's functions.
var (
	_ func(*code.Writer, int64)                 = (*code.Writer).Number
	_ func(*code.Writer, string)                = (*code.Writer).Text
	_ func(*code.Writer, []api.Label)           = (*code.Writer).Labels
	_ func(*code.Writer) string                 = (*code.Writer).Bytes
	_ func(string) *code.Reader                 = code.From
	_ func([]api.Series) (string, error)        = code.Series
	_ func(string) ([]api.Series, error)        = code.ReadSeries
	_ reading                                   = (*code.Reader)(nil)
	_ func(r *code.Reader, most int) (n int)    = (*code.Reader).Size
	_ func(r *code.Reader) (l []api.Series)     = (*code.Reader).Series
	_ func(r *code.Reader) (labels []api.Label) = (*code.Reader).Labels
)

const least, greatest = math.MinInt64, math.MaxInt64

// numbers are numbers, and their eight bytes.
func numbers() map[int64]string {
	return map[int64]string{
		0: "00 00 00 00 00 00 00 00", 1: "00 00 00 00 00 00 00 01", -1: "ff ff ff ff ff ff ff ff", -2: "ff ff ff ff ff ff ff fe",
		127: "00 00 00 00 00 00 00 7f", 128: "00 00 00 00 00 00 00 80", 255: "00 00 00 00 00 00 00 ff", 256: "00 00 00 00 00 00 01 00",
		-255: "ff ff ff ff ff ff ff 01", -256: "ff ff ff ff ff ff ff 00", -257: "ff ff ff ff ff ff fe ff", 65535: "00 00 00 00 00 00 ff ff",
		1 << 31: "00 00 00 00 80 00 00 00", -1 << 31: "ff ff ff ff 80 00 00 00", 1 << 32: "00 00 00 01 00 00 00 00", 1 << 40: "00 00 01 00 00 00 00 00",
		least: "80 00 00 00 00 00 00 00", least + 1: "80 00 00 00 00 00 00 01", greatest: "7f ff ff ff ff ff ff ff",
		0x0102030405060708: "01 02 03 04 05 06 07 08", -0x0102030405060708: "fe fd fc fb fa f9 f8 f8",
	}
}

// texts are texts of no bytes, of one, of many, of any.
func texts() []string {
	l := []string{"", "a", "ab", "\x00", "\xff", "ä", "\xed\xa0\x80", "a\x00b", strings.Repeat("t", 255), strings.Repeat("t", 256), strings.Repeat("\xff", 70000)}
	any := make([]byte, 256)
	for b := range any {
		any[b] = byte(b)
		l = append(l, string(any[b:b+1]))
	}
	return append(l, string(any))
}

// rights are labels that may be a series', up to MaxLabels.
func rights() [][]api.Label {
	return [][]api.Label{
		labels("a=x"), labels("a=x b=y"), labels("A=1 _=~ at=roof job=rain"), labels("a=v b=v c=v d=v e=v f=v g=v"), labels("a=v b=v c=v d=v e=v f=v g=v h=v"),
		{{Name: strings.Repeat("n", 24), Value: strings.Repeat("v", 24)}}, {{Name: "a", Value: " "}, {Name: "b", Value: "a=b, {}"}},
	}
}

// wrongs are labels that may not be a series', each for another reason.
func wrongs() [][]api.Label {
	return [][]api.Label{
		{}, labels("a="), labels("=x"), labels("1=x"), labels("b=x a=x"), labels("a=x a=x"), labels("a=x a=y"), labels("a=x b="), labels(`a="`), labels(`a=\`),
		labels("a-b=x"), labels("a=ä"), {{Name: "a", Value: "\n"}}, {{Name: "a b", Value: "x"}}, labels("a=x c=x b=x"),
		labels(strings.Repeat("n", 25) + "=v"), labels("a=" + strings.Repeat("v", 25)), labels("a=v b=v c=v d=v e=v f=v g=v h=v i=v"), labels("a=v b=v c=v d=v e=v f=v g=v h=v i=v j=v"),
	}
}

// wrongSamples are samples that are not Right, each for another reason.
func wrongSamples() [][]api.Sample {
	return [][]api.Sample{
		at(1, 1, 1, 1), at(2, 1, 1, 1), at(1, 1, 3, 1, 2, 1), at(api.MaxTime+1, 0), at(-api.MaxTime-1, 0), at(0, 0, api.MaxTime+1, 0), even(0, api.MaxSamples+1),
	}
}

// wrongOnes are series that may not be.
func wrongOnes() []api.Series {
	l := []api.Series{{}, {Samples: at(1, 1)}}
	for _, x := range wrongs() {
		l = append(l, api.Series{Labels: x}, api.Series{Labels: x, Samples: at(1, 1, 2, 2)})
	}
	for _, x := range wrongSamples() {
		l = append(l, api.Series{Labels: labels("a=x"), Samples: x}, api.Series{Samples: x})
	}
	return l
}

// lists are lists of series that may be: none, one, several; without samples; not in order, and twice.
func lists() [][]api.Series {
	return [][]api.Series{
		nil, {}, {one("a=x", 1, 1)}, {one("a=x")}, {one("a=x", 10, 5, 20, 5, 30, 6)}, {one("a=x b=y", -5, 0), one("job=z", 0, greatest, 1, least)},
		{one("b=x"), one("a=x", 1, 2), one("c=x")}, {one("a=x", 1, 1), one("a=x", 1, 1)}, {one("a=x", 5, 1), one("a=x", 1, 1), one("a=w")},
		{one("a=v b=v c=v d=v e=v f=v g=v h=v", -api.MaxTime, 7, api.MaxTime, 8)}, {{Labels: labels("a=x"), Samples: even(-7, api.MaxSamples)}},
		slices.Repeat([]api.Series{one("at=roof", 3, 3), one("at=yard")}, 150),
	}
}

// 8.1: a Writer's zero value has no bytes.
func TestNoBytes(t *testing.T) {
	var w code.Writer
	wantBytes(t, "the zero value", w.Bytes(), "")
	wantBytes(t, "again", new(code.Writer).Bytes(), "")
}

// 8.1, 8.2: Number: eight bytes, the greatest first; it is read again.
func TestNumber(t *testing.T) {
	for n, digits := range numbers() {
		var w code.Writer
		w.Number(n)
		wantBytes(t, fmt.Sprint("Number of ", n), w.Bytes(), bytesOf(digits))
		wantBytes(t, fmt.Sprint("the model of ", n), number(n), bytesOf(digits))
		r := code.From(bytesOf(digits))
		if got := r.Number(); got != n {
			t.Errorf("%s is %d, not %d", digits, got, n)
		}
		wantState(t, digits, r, false, true)
	}
	r := drawn(1)
	for range 5000 {
		n := int64(r.Uint64()) >> r.IntN(64)
		var w code.Writer
		w.Number(n)
		wantBytes(t, fmt.Sprint("Number of ", n), w.Bytes(), number(n))
		if got := code.From(number(n)).Number(); got != n {
			t.Errorf("%d is read as %d", n, got)
		}
	}
}

// 8.1, 8.2: Text: how many bytes, and they; it is read again.
func TestText(t *testing.T) {
	for s, digits := range map[string]string{
		"": "00 00 00 00 00 00 00 00", "a": "00 00 00 00 00 00 00 01 61", "ä": "00 00 00 00 00 00 00 02 c3 a4", "\x00\xff\n": "00 00 00 00 00 00 00 03 00 ff 0a",
		strings.Repeat("t", 258): "00 00 00 00 00 00 01 02" + strings.Repeat("74", 258),
	} {
		var w code.Writer
		w.Text(s)
		wantBytes(t, fmt.Sprintf("Text of %q", s), w.Bytes(), bytesOf(digits))
	}
	for _, s := range texts() {
		var w code.Writer
		w.Text(s)
		wantBytes(t, fmt.Sprintf("Text of %q", s), w.Bytes(), text(s))
		r := code.From(w.Bytes())
		wantBytes(t, "read", r.Text(), s)
		wantState(t, fmt.Sprintf("Text of %q", s), r, false, true)
	}
}

// 8.1: Labels: how many, and of each Name and Value; also of labels that may not be a series'.
func TestWriteLabels(t *testing.T) {
	for _, c := range []struct {
		l      []api.Label
		digits string
	}{
		{nil, "00 00 00 00 00 00 00 00"},
		{[]api.Label{}, "00 00 00 00 00 00 00 00"},
		{labels("a=xy"), "00 00 00 00 00 00 00 01  00 00 00 00 00 00 00 01 61  00 00 00 00 00 00 00 02 78 79"},
		{labels("b=x a="), "00 00 00 00 00 00 00 02  00 00 00 00 00 00 00 01 62  00 00 00 00 00 00 00 01 78  00 00 00 00 00 00 00 01 61  00 00 00 00 00 00 00 00"},
	} {
		var w code.Writer
		w.Labels(c.l)
		wantBytes(t, fmt.Sprint("Labels of ", c.l), w.Bytes(), bytesOf(c.digits))
	}
	for _, l := range slices.Concat(rights(), wrongs()) {
		var w code.Writer
		w.Labels(l)
		wantBytes(t, fmt.Sprint("Labels of ", l), w.Bytes(), labelled(l))
	}
}

// 8.1: all that is written stands one behind the other, and Bytes changes nothing.
func TestBehind(t *testing.T) {
	r := drawn(2)
	for range 300 {
		var w code.Writer
		want := ""
		for range r.IntN(9) {
			switch r.IntN(3) {
			case 0:
				n := int64(r.Uint64()) >> r.IntN(64)
				w.Number(n)
				want += number(n)
			case 1:
				s := texts()[r.IntN(10)]
				w.Text(s)
				want += text(s)
			default:
				l := rights()[r.IntN(len(rights()))]
				w.Labels(l)
				want += labelled(l)
			}
			if r.IntN(2) == 0 {
				wantBytes(t, "between", w.Bytes(), want)
			}
		}
		wantBytes(t, "at last", w.Bytes(), want)
		wantBytes(t, "once more", w.Bytes(), want)
	}
}

// 8.1: Series: how many, and of each its labels, and Write of its samples; and 8.2: they are read again.
func TestSeries(t *testing.T) {
	wantOne := "00 00 00 00 00 00 00 01  00 00 00 00 00 00 00 01  00 00 00 00 00 00 00 01 61  00 00 00 00 00 00 00 01 78"
	for _, c := range []struct {
		l      []api.Series
		digits string
	}{
		{nil, "00 00 00 00 00 00 00 00"},
		{[]api.Series{one("a=x")}, wantOne + "00 00 00 00 00 00 00 01 00"},
		{[]api.Series{one("a=x", 0, 0)}, wantOne + "00 00 00 00 00 00 00 01 88"}, // 10 0010, 0, 0
	} {
		s, err := code.Series(c.l)
		if err != nil {
			t.Error(err)
		}
		wantBytes(t, short(c.l), s, bytesOf(c.digits))
	}
	r := drawn(3)
	l := lists()
	for range 500 {
		l = append(l, some(r, 6))
	}
	for _, x := range rights() {
		l = append(l, []api.Series{{Labels: x}}, []api.Series{{Labels: x, Samples: at(1, 1)}, {Labels: x}})
	}
	for _, x := range l {
		checkBothWays(t, x)
	}
}

// checkBothWays: Series tells what the sentence does, and ReadSeries, and a Reader, the series again.
func checkBothWays(t *testing.T, l []api.Series) {
	t.Helper()
	s, err := code.Series(l)
	wantErrno(t, short(l), err, api.OK)
	wantBytes(t, short(l), s, written(t, l))
	got, err := code.ReadSeries(s)
	wantErrno(t, short(l), err, api.OK)
	if !sameSeries(got, l) {
		t.Errorf("%s is read as %s", short(l), short(got))
	}
	r := code.From(s + "behind")
	if got := r.Series(); !sameSeries(got, l) {
		t.Errorf("%s is read as %s", short(l), short(got))
	}
	wantState(t, short(l), r, false, false)
}

// 8.1: Series: ErrArg, an At at the first one whose labels, or samples, are not Right, wherever it stands, and whatever stands behind it.
func TestSeriesWrong(t *testing.T) {
	right := []api.Series{one("a=x", 1, 1), one("a=x b=y"), one("job=z", 5, 5, 6, 6)}
	for _, x := range wrongOnes() {
		wantAt(t, []api.Series{x}, 0)
		wantAt(t, []api.Series{x, x}, 0)
		for place := range len(right) + 1 {
			wantAt(t, slices.Insert(slices.Clone(right), place, x), place)
			wantAt(t, slices.Insert(slices.Clone(right), place, x, x), place)
		}
		for _, other := range wrongOnes() {
			wantAt(t, []api.Series{right[0], x, right[1], other, right[2]}, 1)
			wantAt(t, []api.Series{right[0], right[1], x, other, x}, 2)
		}
	}
}

// 8.2: From of the empty text: nothing is left, and all that is read is Bad.
func TestFromNothing(t *testing.T) {
	wantState(t, "the empty text", code.From(""), false, true)
	for what, call := range calls() {
		r := code.From("")
		wantZero(t, what, call(r))
		wantState(t, what, r, true, false)
	}
}

// calls are all that may be read.
func calls() map[string]func(reading) any {
	return map[string]func(reading) any{
		"Number":   func(r reading) any { return r.Number() },
		"Size":     func(r reading) any { return r.Size(greatest) },
		"Size(9)":  func(r reading) any { return r.Size(9) },
		"Size(0)":  func(r reading) any { return r.Size(0) },
		"Size(-1)": func(r reading) any { return r.Size(-1) },
		"Text":     func(r reading) any { return r.Text() },
		"Labels":   func(r reading) any { return r.Labels() },
		"Series":   func(r reading) any { return r.Series() },
	}
}

// wantZero: it is 0, or empty.
func wantZero(t *testing.T, what string, got any) {
	t.Helper()
	if s := fmt.Sprint(got); s != "0" && s != "" && s != "[]" {
		t.Errorf("%.300s: %.100s is read", what, s)
	}
}

// 8.2: Number with none to nine and more bytes left: Bad, if there are fewer than eight.
func TestNumberLeft(t *testing.T) {
	all := bytesOf("01 02 03 04 05 06 07 08 09 0a 0b 0c 0d 0e 0f 10 11")
	for left := range len(all) + 1 {
		r := code.From(all[:left])
		got := r.Number()
		if left < 8 {
			wantZero(t, fmt.Sprint(left, " left"), got)
			wantState(t, fmt.Sprint(left, " left"), r, true, false)
			continue
		}
		if got != 0x0102030405060708 {
			t.Errorf("%d left: %x", left, got)
		}
		wantState(t, fmt.Sprint(left, " left"), r, false, left == 8)
		got = r.Number()
		wantState(t, fmt.Sprint(left, " left, behind it"), r, left < 16, left == 16)
		if want := int64(0x090a0b0c0d0e0f10); left >= 16 && got != want || left < 16 && got != 0 {
			t.Errorf("%d left, behind it: %x", left, got)
		}
	}
}

// 8.2: Size: a number; Bad, unless it is from 0 to most.
func TestSize(t *testing.T) {
	edges := []int64{least, least + 1, -1 << 32, -256, -6, -5, -2, -1, 0, 1, 2, 4, 5, 6, 255, 256, 1 << 31, 1<<32 - 1, 1 << 32, 1<<32 + 5, greatest - 1, greatest}
	for _, most := range edges {
		for _, n := range edges {
			what := fmt.Sprint("Size(", most, ") of ", n)
			r := code.From(number(n) + number(7))
			got := r.Size(int(most))
			if n < 0 || n > most {
				wantZero(t, what, got)
				wantState(t, what, r, true, false)
				wantZero(t, what+", and behind it", r.Number())
				continue
			}
			if int64(got) != n {
				t.Errorf("%s: %d", what, got)
			}
			wantState(t, what, r, false, false)
			if behind := r.Number(); behind != 7 {
				t.Errorf("%s: behind it %d", what, behind)
			}
			wantState(t, what, r, false, true)
		}
		for left := range 8 {
			r := code.From(number(0)[:left])
			wantZero(t, "Size", r.Size(int(most)))
			wantState(t, fmt.Sprint("Size with ", left, " left"), r, true, false)
		}
	}
}

// 8.2: Text with fewer bytes left than it tells, with just so many, with more; and one that tells a number that no text has.
func TestTextLeft(t *testing.T) {
	all := "rain and more of it"
	for tells := range len(all) + 1 {
		for left := range len(all) + 1 {
			what := fmt.Sprint("Text that tells ", tells, ", with ", left, " left")
			r := code.From(number(int64(tells)) + all[:left])
			got := r.Text()
			if tells > left {
				wantZero(t, what, got)
				wantState(t, what, r, true, false)
				continue
			}
			wantBytes(t, what, got, all[:tells])
			wantState(t, what, r, false, tells == left)
		}
	}
	for _, n := range []int64{least, least + 1, -1 << 32, -8, -1, 1 << 31, 1 << 32, 1<<32 + 1, 1 << 62, greatest - 8, greatest - 7, greatest - 1, greatest} {
		for _, s := range []string{"", "a", all, strings.Repeat("\x00", 100)} {
			r := code.From(number(n) + s)
			wantZero(t, fmt.Sprint("Text that tells ", n), r.Text())
			wantState(t, fmt.Sprint("Text that tells ", n), r, true, false)
		}
	}
	for left := range 8 {
		r := code.From(number(0)[:left])
		wantZero(t, "Text", r.Text())
		wantState(t, fmt.Sprint("Text with ", left, " left"), r, true, false)
	}
}

// 8.2: Labels: as written, up to MaxLabels; Bad, if there are more, or they are not Right, or their bytes end ahead of them.
func TestReadLabels(t *testing.T) {
	for _, l := range rights() {
		r := code.From(labelled(l) + number(7))
		if got := r.Labels(); !slices.Equal(got, l) {
			t.Errorf("%v is read as %v", l, got)
		}
		wantState(t, fmt.Sprint(l), r, false, false)
		if behind := r.Number(); behind != 7 {
			t.Errorf("%v: behind it %d", l, behind)
		}
		wantState(t, fmt.Sprint(l), r, false, true)
		for n := range labelled(l) {
			r := code.From(labelled(l)[:n])
			wantZero(t, fmt.Sprint(l, " cut behind ", n), r.Labels())
			wantState(t, fmt.Sprint(l, " cut behind ", n), r, true, false)
		}
	}
	for _, l := range wrongs() {
		r := code.From(labelled(l) + number(7))
		wantZero(t, fmt.Sprint(l), r.Labels())
		wantState(t, fmt.Sprint(l), r, true, false)
	}
	for _, n := range []int64{least, -9, -1, 0, 2, 8, 9, 10, 1 << 32, 1<<32 + 1, greatest} {
		r := code.From(number(n) + text("a") + text("x"))
		wantZero(t, fmt.Sprint(n, " labels of one"), r.Labels())
		wantState(t, fmt.Sprint(n, " labels of one"), r, true, false)
	}
}

// spoilt are bytes that look like series, and are none.
func spoilt() map[string]string {
	ahead := number(1) + labelled(labels("a=x"))
	l := map[string]string{
		"a count below 0": number(-1), "the least count": number(least), "the greatest count": number(greatest), "a count of one, of none": number(1),
		"a greater count": number(2) + labelled(labels("a=x")) + text("\x00"), "a much greater count": number(1<<40) + labelled(labels("a=x")) + text("\x00"),
		"no samples at all": ahead, "samples of no bytes": ahead + text(""), "samples behind which a byte stands": ahead + text("\x00\x00"),
		"samples of which one is missing": ahead + text("\x90"), "samples filled up with 1": ahead + text("\x01"), "samples that are cut off": ahead + number(2) + "\x00",
		"a count of samples below 0": ahead + text("\x84"), "samples whose number is below 0": ahead + number(-1) + "\x00",
		"samples of one time": ahead + text("\x90\x00"),
	}
	for _, x := range wrongs() {
		l[fmt.Sprint("labels ", x)] = number(1) + labelled(x) + text("\x00")
		l[fmt.Sprint("labels at last ", x)] = number(2) + labelled(labels("a=x")) + text("\x00") + labelled(x) + text("\x00")
		l[fmt.Sprint("labels first ", x)] = number(2) + labelled(x) + text("\x00") + labelled(labels("a=x")) + text("\x00")
	}
	return l
}

// 8.2: Series of bytes whose labels, or samples, are not so: Bad, and ReadSeries: ErrForm.
func TestSeriesSpoilt(t *testing.T) {
	for what, s := range spoilt() {
		r := code.From(s)
		wantZero(t, what, r.Series())
		wantState(t, what, r, true, false)
		wantForm(t, what, s)
		for _, behind := range []string{"\x00", number(0), text("\x00")} { // it may fill up what is missing
			r, m := code.From(s+behind), &model{all: s + behind}
			if got, want := r.Series(), m.Series(); !sameSeries(got, want) {
				t.Errorf("%s, with %x behind it: %s, not %s", what, behind, short(got), short(want))
			}
			wantState(t, what, r, m.Bad(), m.Done())
		}
	}
}

// wantForm: ReadSeries tells ErrForm, and nothing else.
func wantForm(t *testing.T, what, s string) {
	t.Helper()
	l, err := code.ReadSeries(s)
	wantErrno(t, what, err, api.ErrForm)
	wantZero(t, what, l)
}

// 8.2: once Bad, it is Bad for ever, all that is read is 0, or empty, nothing more is taken, and it is not Done.
func TestBadForEver(t *testing.T) {
	behind := []string{
		"", number(7), number(0), number(0) + number(0), text("rain"), labelled(labels("a=x")), number(1) + labelled(labels("a=x")) + text("\x00"),
		number(3) + text("rain") + labelled(labels("a=x b=y")), strings.Repeat(number(1), 40),
	}
	turns := map[string]func(string) *code.Reader{
		"Size above most": func(s string) *code.Reader { r := code.From(number(6) + s); r.Size(5); return r },
		"Size below 0":    func(s string) *code.Reader { r := code.From(number(-1) + s); r.Size(5); return r },
		"Size(-1)":        func(s string) *code.Reader { r := code.From(number(0) + s); r.Size(-1); return r },
		"Text below 0":    func(s string) *code.Reader { r := code.From(number(-1) + s); r.Text(); return r },
		"Text too long":   func(s string) *code.Reader { r := code.From(number(1<<20) + s); r.Text(); return r },
		"no Labels":       func(s string) *code.Reader { r := code.From(number(0) + s); r.Labels(); return r },
		"nine Labels":     func(s string) *code.Reader { r := code.From(number(9) + s); r.Labels(); return r },
		"wrong Labels":    func(s string) *code.Reader { r := code.From(labelled(labels("1=x")) + s); r.Labels(); return r },
		"Series below 0":  func(s string) *code.Reader { r := code.From(number(-1) + s); r.Series(); return r },
		"Series of wrong": func(s string) *code.Reader { r := code.From(number(1) + labelled(nil) + s); r.Series(); return r },
		"wrong samples": func(s string) *code.Reader {
			r := code.From(number(1) + labelled(labels("a=x")) + text("\xff") + s)
			r.Series()
			return r
		},
		"Number of few":    func(string) *code.Reader { r := code.From("\x00\x00\x00"); r.Number(); return r },
		"Number of seven":  func(string) *code.Reader { r := code.From(number(1) + number(1)[:7]); r.Number(); r.Number(); return r },
		"Series too often": func(string) *code.Reader { r := code.From(number(3)); r.Series(); return r },
	}
	for what, turn := range turns {
		for _, s := range behind {
			wantState(t, what, turn(s), true, false)
			for first, call := range calls() {
				r := turn(s)
				wantZero(t, what+", then "+first, call(r))
				for second, again := range calls() {
					wantZero(t, what+", then "+first+", then "+second, again(r))
					wantState(t, what+", then "+first+", then "+second, r, true, false)
				}
			}
		}
	}
}

// 8.2: Done: ahead of the end it is not, at the end it is, and it may be asked often.
func TestDone(t *testing.T) {
	s := number(5) + number(5) + text("rain") + labelled(labels("a=x")) + written(t, lists()[4]) + text("")
	r := code.From(s)
	for _, what := range []string{"Number", "Size", "Text", "Labels", "Series", "Text"} {
		for range 3 {
			wantState(t, "ahead of "+what, r, false, false)
		}
		calls()[what](r)
	}
	for range 3 {
		wantState(t, "at the end", r, false, true)
	}
	r.Number()
	wantState(t, "behind the end", r, true, false)
}

// 8.2: ReadSeries of each beginning of what Series tells, of it with bytes behind it, and of the empty text: ErrForm.
func TestReadSeriesCutOrLonger(t *testing.T) {
	wantForm(t, "the empty text", "")
	r := drawn(4)
	l := lists()
	for range 40 {
		l = append(l, some(r, 4))
	}
	for _, x := range l {
		s := written(t, x)
		for n := range min(len(s), 600) {
			wantForm(t, fmt.Sprint(short(x), " cut behind ", n), s[:n])
			wantForm(t, fmt.Sprint(short(x), " cut ahead of the last ", n+1), s[:len(s)-n-1])
		}
		for _, behind := range []string{"\x00", "\x01", "\xff", "a", number(0), text(""), labelled(labels("a=x")) + text("\x00"), s} {
			wantForm(t, fmt.Sprintf("%s, with %x behind it", short(x), behind), s+behind)
		}
	}
}

// checkRead: ReadSeries tells just what the model does, and what it reads is written just so; whether it was read.
func checkRead(t *testing.T, s string) bool {
	t.Helper()
	m := &model{all: s}
	want := m.Series()
	if !m.Done() {
		wantForm(t, fmt.Sprintf("%x", s), s)
		return false
	}
	got, err := code.ReadSeries(s)
	wantErrno(t, fmt.Sprintf("%x", s), err, api.OK)
	if !sameSeries(got, want) {
		t.Errorf("%.200x is read as %s, not %s", s, short(got), short(want))
	}
	again, err := code.Series(got)
	if again != s || err != nil {
		t.Errorf("%.200x: Series tells %.200x, %v", s, again, err)
	}
	return true
}

// 8.2: ReadSeries of what Series told with single bytes changed: what is read is what Series writes just so, or ErrForm.
func TestReadSeriesChanged(t *testing.T) {
	read, not := 0, 0
	for _, l := range [][]api.Series{nil, {one("a=x")}, {one("a=x", 1, 1)}, {one("at=roof job=rain", 10, 5, 20, 5, 30, 6), one("b=y")}, {one("a=x"), one("c=x", -3, 9)}} {
		s := written(t, l)
		for place := range s {
			b := []byte(s)
			for c := range 256 {
				b[place] = byte(c)
				if checkRead(t, string(b)) {
					read++
				} else {
					not++
				}
			}
		}
	}
	if read < 1000 || not < 1000 {
		t.Errorf("%d are read, %d are not", read, not)
	}
}

// 8.2: likewise with bytes changed, put in, and taken out at several places.
func TestReadSeriesBent(t *testing.T) {
	r := drawn(5)
	for range 5000 {
		b := []byte(written(t, some(r, 3)))
		for range r.IntN(4) {
			place := r.IntN(len(b))
			switch r.IntN(4) {
			case 0:
				b = slices.Insert(b, place, byte(r.IntN(3)))
			case 1:
				b = slices.Delete(b, place, min(place+1+r.IntN(9), len(b)))
			case 2:
				b[place] ^= 1 << r.IntN(8)
			default:
				b[place] = byte(r.IntN(9))
			}
			if len(b) == 0 {
				break
			}
		}
		checkRead(t, string(b))
	}
}

// 8.2: any calls, one behind the other, on bytes that hold what they ask for, or something else, or end ahead of it.
func TestReadAnything(t *testing.T) {
	r := drawn(6)
	var names []string
	for what := range calls() {
		names = append(names, what)
	}
	slices.Sort(names)
	ends := [2]int{}
	for range 20000 {
		var asked []string
		s := ""
		for range r.IntN(6) {
			what := names[r.IntN(len(names))]
			asked = append(asked, what)
			if r.IntN(8) == 0 {
				what = names[r.IntN(len(names))]
			}
			switch what {
			case "Text":
				s += text(texts()[r.IntN(8)])
			case "Labels":
				s += labelled(rights()[r.IntN(len(rights()))])
			case "Series":
				s += written(t, some(r, 2))
			default:
				s += number(r.Int64N(4) - r.Int64N(2)*r.Int64N(2))
			}
		}
		if r.IntN(8) == 0 {
			s = s[:r.IntN(len(s)+1)]
		}
		got, want := code.From(s), &model{all: s}
		for i, what := range asked {
			x, y := fmt.Sprintf("%q", calls()[what](got)), fmt.Sprintf("%q", calls()[what](want))
			if x != y {
				t.Fatalf("%x, %v: %s, not %s", s, asked[:i+1], x, y)
			}
			wantState(t, fmt.Sprintf("%x, %v", s, asked[:i+1]), got, want.Bad(), want.Done())
		}
		if want.Bad() {
			ends[0]++
		} else {
			ends[1]++
		}
	}
	if ends[0] < 1000 || ends[1] < 1000 {
		t.Errorf("%d ended Bad, %d did not", ends[0], ends[1])
	}
}

// P4: nothing that is handed in, nor what stands behind its length, is written into or kept.
func TestHandedIn(t *testing.T) {
	room := []api.Series{one("a=x b=y", 1, 1, 2, 2), one("c=z", 3, 3), one("behind=it", 7, 7)}
	kept := copied(room)
	l := room[:2]
	l[0].Labels, l[0].Samples = l[0].Labels[:1], l[0].Samples[:1]
	told, err := code.Series(l)
	wantErrno(t, "Series", err, api.OK)
	var w code.Writer
	w.Labels(l[0].Labels)
	if room[0].Labels, room[0].Samples = room[0].Labels[:2], room[0].Samples[:2]; !sameSeries(room, kept) {
		t.Errorf("handed in, it became %s", short(room))
	}
	was := strings.Clone(told)
	room[0].Labels[0], room[0].Samples[0] = api.Label{Name: "other", Value: "other"}, api.Sample{Time: -9, Value: -9}
	wantBytes(t, "Series, when what was handed in changes", told, was)
	wantBytes(t, "Labels, when what was handed in changes", w.Bytes(), labelled(labels("a=x")))
	first := w.Bytes()
	w.Number(9)
	wantBytes(t, "Bytes, when more is written", first, labelled(labels("a=x")))
	again, err := code.Series(kept)
	wantErrno(t, "Series", err, api.OK)
	wantBytes(t, "Series of others", again, written(t, kept))
}

// spoil writes over all lists of series, and over what stands behind their length.
func spoil(l []api.Series) {
	l = l[:cap(l)]
	for i := range l {
		for j := range l[i].Labels[:cap(l[i].Labels)] {
			l[i].Labels[:cap(l[i].Labels)][j] = api.Label{Name: "spoilt", Value: "spoilt"}
		}
		for j := range l[i].Samples[:cap(l[i].Samples)] {
			l[i].Samples[:cap(l[i].Samples)][j] = api.Sample{Time: -9, Value: -9}
		}
	}
}

// P4: what comes out is fresh memory: changed by the caller, it changes no later answer, and nothing else of the same one.
func TestFresh(t *testing.T) {
	l := []api.Series{one("a=x b=y", 1, 1, 2, 2), one("a=x b=y", 1, 1, 2, 2), one("c=z")}
	s := written(t, l)
	for range 3 {
		got, err := code.ReadSeries(s)
		wantErrno(t, "ReadSeries", err, api.OK)
		if !sameSeries(got, l) {
			t.Errorf("%s is read", short(got))
		}
		spoil(got[:1:1])
		if !sameSeries(got[1:], l[1:]) {
			t.Errorf("with the first one the others became %s", short(got[1:]))
		}
		spoil(got)
	}
	r := code.From(s + s + labelled(l[0].Labels) + labelled(l[0].Labels))
	first := r.Series()
	spoil(first)
	if got := r.Series(); !sameSeries(got, l) {
		t.Errorf("%s is read behind it", short(got))
	}
	one := r.Labels()
	one[0] = api.Label{Name: "spoilt", Value: "spoilt"}
	if got := r.Labels(); !slices.Equal(got, l[0].Labels) {
		t.Errorf("%v is read behind it", got)
	}
	wantState(t, "at the end", r, false, true)
}

// P4: two Readers of one text, and two Writers, have nothing to do with each other.
func TestApart(t *testing.T) {
	s := number(1) + number(2)
	one, other := code.From(s), code.From(s)
	if one.Number() != 1 || one.Number() != 2 || other.Number() != 1 {
		t.Error("a Reader reads what another one left")
	}
	one.Number()
	wantState(t, "one", one, true, false)
	wantState(t, "the other", other, false, false)
	var v, w code.Writer
	v.Text("rain")
	w.Number(1)
	v.Number(2)
	wantBytes(t, "one", v.Bytes(), text("rain")+number(2))
	wantBytes(t, "the other", w.Bytes(), number(1))
}

// P1: a count that is greater than what can stand behind it ends soon, and takes no memory for it.
func TestGreatCountEnds(t *testing.T) {
	s := labelled(labels("a=x")) + text("\x00")
	for _, n := range []int64{1 << 20, 1 << 31, 1 << 40, greatest} {
		for _, behind := range []string{"", s, strings.Repeat(s, 2000), strings.Repeat("\x00", 50000)} {
			wantForm(t, fmt.Sprint("a count of ", n), number(n)+behind)
		}
	}
	many := slices.Repeat([]api.Series{one("a=x")}, 3000)
	checkBothWays(t, many)
}

// P1: no Writer and no Reader don't panic: the one takes nothing, the other is Bad.
func TestNone(t *testing.T) {
	var w *code.Writer
	w.Number(1)
	w.Text("a")
	w.Labels(labels("a=x"))
	wantBytes(t, "no Writer", w.Bytes(), "")
	var r *code.Reader
	wantState(t, "no Reader", r, true, false)
	for what, call := range calls() {
		wantZero(t, "no Reader, "+what, call(r))
		wantState(t, "no Reader, "+what, r, true, false)
	}
}

// What is in few bits stays so: even steps cost little also within series.
func TestFewBytes(t *testing.T) {
	x := api.Series{Labels: labels("a=x"), Samples: even(0, api.MaxSamples)}
	for i := range x.Samples {
		x.Samples[i].Value = 5
	}
	samples, err := chunk.Write(x.Samples)
	if err != nil {
		t.Fatal(err)
	}
	s, err := code.Series([]api.Series{x})
	if want := 8 + len(labelled(x.Labels)) + 8 + len(samples); err != nil || len(s) != want {
		t.Errorf("%d bytes, %v, not %d", len(s), err, want)
	}
}
