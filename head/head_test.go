package head_test

import (
	"fmt"
	"math"
	"slices"
	"strings"
	"testing"

	"raingauge/api"
	"raingauge/head"
)

// The heads of the chapter's functions.
var (
	_ func(mark int64) *head.Head = head.New
	_ keeper                      = (*head.Head)(nil)
	_ keeper                      = (*model)(nil)
)

const least, greatest = math.MinInt64, math.MaxInt64

// named is the labels of the number of a series; by these they stand in order.
func named(number int) []api.Label {
	return []api.Label{{Name: "n", Value: fmt.Sprintf("%04d", number)}}
}

// even are samples at even steps.
func even(from int64, count int) (l []api.Sample) {
	for i := range int64(count) {
		l = append(l, api.Sample{Time: from + i, Value: i % 7})
	}
	return l
}

// several are series of one sample each.
func several(from, count int, time int64) (l []api.Series) {
	for number := from; number < from+count; number++ {
		l = append(l, api.Series{Labels: named(number), Samples: even(time, 1)})
	}
	return l
}

// fullOfSeries is a Head of MaxSeries series, the numbers from 0 on, with a sample at time 5; the mark is 0.
func fullOfSeries(t *testing.T) *head.Head {
	t.Helper()
	h := head.New(0)
	mustAppend(t, h, several(0, 40, 5))
	mustAppend(t, h, several(40, 20, 5))
	return h
}

// fullOfSamples is a Head of one series, a=x, with so many samples, the first one at time 1; the mark is 0.
func fullOfSamples(t *testing.T, count int) *head.Head {
	t.Helper()
	h := head.New(0)
	for from := 0; from < count; from += 40 {
		mustAppend(t, h, []api.Series{{Labels: series("a=x")[0].Labels, Samples: even(int64(from)+1, min(40, count-from))}})
	}
	return h
}

// wrongLabels are labels that may not be a series', each for another reason.
func wrongLabels() (l [][]api.Label) {
	for _, words := range []string{
		"", "a=", "=x", "1=x", "b=x a=x", "a=x a=x", "a=x a=y", "a=x b=", `a="`, `a=\`, "a-b=x", "a=ä",
		strings.Repeat("n", 25) + "=v", "a=" + strings.Repeat("v", 25), "a=v b=v c=v d=v e=v f=v g=v h=v i=v",
	} {
		l = append(l, series(words + " 1:1")[0].Labels)
	}
	return append(l, []api.Label{{Name: "a", Value: "\n"}}, []api.Label{{Name: "a b", Value: "x"}})
}

// wrongOnes are series that are ErrArg, whatever the Head has.
func wrongOnes() (l []api.Series) {
	for _, labels := range wrongLabels() {
		l = append(l, api.Series{Labels: labels, Samples: even(100, 2)}, api.Series{Labels: labels})
	}
	return append(l, slices.Concat(
		series("a=x"), series("a=x 100:1 100:1"), series("a=x 100:1 99:1"), series("a=x 100:1 102:1 101:1"), series("new=x 100:1 100:2"),
		series(fmt.Sprintf("a=x %d:1", api.MaxTime+1)), series(fmt.Sprintf("a=x 100:1 %d:1", api.MaxTime+1)), series(fmt.Sprintf("a=x %d:1", -api.MaxTime-1)), series(fmt.Sprintf("new=x %d:1", int64(greatest))), series(fmt.Sprintf("a=x %d:1 100:1", int64(least))),
		[]api.Series{{}, {Samples: even(100, 1)}, {Labels: series("a=x")[0].Labels, Samples: []api.Sample{}}},
	)...)
}

// 9.1: a new Head has the mark that it is given, and no series.
func TestNew(t *testing.T) {
	for _, mark := range []int64{least, least + 1, -api.MaxTime - 1, -api.MaxTime, -7, -1, 0, 1, 7, api.MaxTime - 1, api.MaxTime, api.MaxTime + 1, greatest - 1, greatest} {
		h := head.New(mark)
		if h.Mark() != mark || len(h.Series()) != 0 {
			t.Errorf("New(%d) has mark %d and series %v", mark, h.Mark(), h.Series())
		}
		if l := h.Cut(mark); len(l) != 0 || h.Mark() != mark {
			t.Errorf("New(%d): Cut tells %v, the mark is %d", mark, l, h.Mark())
		}
		h.Gone(api.Gone{From: least, To: greatest})
		mustAppend(t, h, nil)
		mustAppend(t, h, []api.Series{})
		wantText(t, "still none", state(h), fmt.Sprint(mark, " "))
	}
}

// 9.1: a first time must be above the mark: below it, at it, above it; at the ends of time.
func TestAboveMark(t *testing.T) {
	for _, mark := range []int64{least, -api.MaxTime - 1, -api.MaxTime, -7, -1, 0, 1, 7, api.MaxTime - 2, api.MaxTime - 1, api.MaxTime, api.MaxTime + 1, greatest} {
		for _, time := range []int64{-api.MaxTime, -api.MaxTime + 1, -8, -7, -6, -2, -1, 0, 1, 2, 6, 7, 8, api.MaxTime - 1, api.MaxTime} {
			want := "10 at 0"
			if time > mark {
				want = ""
			}
			h := head.New(mark)
			one := fmt.Sprintf("a=x %d:3", time)
			wantAppend(t, h, series(one), want)
			if want == "" {
				wantText(t, "behind it", state(h), fmt.Sprint(mark, " ", one))
			}
		}
	}
	for _, c := range []struct{ text, want string }{
		{"a=x 4:1 9:1", "10 at 0"}, {"a=x 5:1 9:1", "10 at 0"}, {"a=x 6:1 9:1", ""}, {"a=x 6:1; b=x 5:1", "10 at 1"}, {"a=x 5:1; b=x 4:1", "10 at 0"},
		{"b=x 6:1; a=x 6:1", ""}, {"a=x 6:1; a=x 5:1", "10 at 1"}, {"b=x 7:1; c=x 8:1; a=x -5:1 6:1", "10 at 2"},
	} {
		wantAppend(t, head.New(5), series(c.text), c.want)
	}
}

// 9.1: Append of no series, of one, of several, in the order of their labels or not, of the same one twice; the samples stand behind its series'.
func TestAppend(t *testing.T) {
	for _, c := range []struct{ before, text, want, behind string }{
		{"", "", "", ""},
		{"a=x 1:1", "", "", "a=x 1:1"},
		{"", "a=x 1:5", "", "a=x 1:5"},
		{"", "a=x 1:5 2:-6 9:0", "", "a=x 1:5 2:-6 9:0"},
		{"", "a=x 1:5; b=x 1:6", "", "a=x 1:5; b=x 1:6"},
		{"", "b=x 1:5; a=x 1:6", "", "a=x 1:6; b=x 1:5"},
		{"", "c=x 9:1; a=x 3:2 4:2; b=x 1:3", "", "a=x 3:2 4:2; b=x 1:3; c=x 9:1"},
		{"b=x 5:1", "a=x 1:1; c=x 2:2", "", "a=x 1:1; b=x 5:1; c=x 2:2"},
		{"a=x 5:1", "a=x 6:2", "", "a=x 5:1 6:2"},
		{"a=x 5:1", "a=x 6:2 7:3 99:4", "", "a=x 5:1 6:2 7:3 99:4"},
		{"a=x 5:1", "a=x 5:2", "10 at 0", "a=x 5:1"},
		{"a=x 5:1", "a=x 5:1", "10 at 0", "a=x 5:1"},
		{"a=x 5:1", "a=x 4:2", "10 at 0", "a=x 5:1"},
		{"a=x 5:1", "a=x 4:2 6:2", "10 at 0", "a=x 5:1"},
		{"a=x 5:1 9:1", "a=x 7:1", "10 at 0", "a=x 5:1 9:1"},
		{"a=x 5:1 9:1", "a=x 9:1 10:1", "10 at 0", "a=x 5:1 9:1"},
		{"a=x 5:1 9:1", "a=x 10:1", "", "a=x 5:1 9:1 10:1"},
		{"a=x 5:1 9:1", "a=y 2:1", "", "a=x 5:1 9:1; a=y 2:1"},
		{"a=x 5:1; b=x 7:1", "b=x 8:1; a=x 6:1", "", "a=x 5:1 6:1; b=x 7:1 8:1"},
		{"a=x 5:1; b=x 7:1", "a=x 6:1; b=x 6:1", "10 at 1", "a=x 5:1; b=x 7:1"},
		{"a=x 5:1; b=x 7:1", "a=x 6:1; c=x 1:1; b=x 7:2 8:1; d=x 1:1", "10 at 2", "a=x 5:1; b=x 7:1"},
		{"", "a=x 1:1; a=x 2:2", "", "a=x 1:1 2:2"},
		{"", "a=x 1:1 3:3; b=x 1:1; a=x 4:4 5:5", "", "a=x 1:1 3:3 4:4 5:5; b=x 1:1"},
		{"", "a=x 1:1; a=x 2:2; a=x 3:3", "", "a=x 1:1 2:2 3:3"},
		{"", "a=x 1:1; a=x 1:1", "10 at 1", ""},
		{"", "a=x 1:1; a=x 1:2", "10 at 1", ""},
		{"", "a=x 2:1; a=x 1:1", "10 at 1", ""},
		{"", "a=x 1:1 5:1; a=x 3:1", "10 at 1", ""},
		{"", "a=x 1:1; b=x 1:1; a=x 2:1; a=x 2:2", "10 at 3", ""},
		{"a=x 5:1", "a=x 6:1; a=x 7:1", "", "a=x 5:1 6:1 7:1"},
		{"a=x 5:1", "a=x 7:1; a=x 6:1", "10 at 1", "a=x 5:1"},
		{"a=x 5:1", "a=x 7:1; a=x 7:1", "10 at 1", "a=x 5:1"},
	} {
		h := having(t, 0, c.before)
		wantAppend(t, h, series(c.text), c.want)
		wantText(t, "behind Append of "+c.text, state(h), "0 "+c.behind)
	}
}

// 9.1: values are any numbers, times up to both ends.
func TestEnds(t *testing.T) {
	one := fmt.Sprintf("a=x %d:%d 0:%d %d:-1", -api.MaxTime, int64(least), int64(greatest), api.MaxTime)
	h := having(t, -api.MaxTime-1, one)
	wantText(t, "at both ends", state(h), fmt.Sprint(-api.MaxTime-1, " ", one))
	wantAppend(t, h, series(fmt.Sprintf("a=x %d:1", api.MaxTime)), "10 at 0")
	wantAppend(t, h, series(fmt.Sprintf("a=x %d:1", api.MaxTime+1)), "1 at 0")
	wantText(t, "Cut at the first", text(h.Cut(-api.MaxTime)), fmt.Sprintf("a=x %d:%d", -api.MaxTime, int64(least)))
	wantText(t, "Cut at the last", text(h.Cut(api.MaxTime)), fmt.Sprintf("a=x 0:%d %d:-1", int64(greatest), api.MaxTime))
	wantText(t, "behind it", state(h), fmt.Sprint(api.MaxTime, " "))
	wantAppend(t, h, series(fmt.Sprintf("a=x %d:1", api.MaxTime)), "10 at 0")
}

// 9.1: series stand in the order of their labels, whatever the order in which they came, at once or one by one.
func TestOrder(t *testing.T) {
	rows := []string{"A=z 1:1", "_=x 2:2", "a=x 3:3", "a=x b=x 4:4", "a=x b=y 5:5", "a=xy 6:6", "a=y 7:7", "aa=x 8:8", "b=x 9:9"}
	want := "0 " + strings.Join(rows, "; ")
	r := drawn(1)
	for range 500 {
		r.Shuffle(len(rows), func(i, j int) { rows[i], rows[j] = rows[j], rows[i] })
		wantText(t, "one by one", state(having(t, 0, rows...)), want)
		wantText(t, "at once", state(having(t, 0, strings.Join(rows, ";"))), want)
		cut := r.IntN(len(rows))
		h := having(t, 0, strings.Join(rows[:cut], ";"), strings.Join(rows[cut:], ";"))
		wantText(t, "by two", state(h), want)
		wantText(t, "told by Cut", fmt.Sprint("0 ", text(h.Cut(9))), want)
	}
}

// 9.1: MaxBatch samples in all may come, one more is ErrLimit, without an At.
func TestBatch(t *testing.T) {
	forty := []api.Series{{Labels: named(0), Samples: even(10, 40)}}
	h := head.New(0)
	wantAppend(t, h, forty, "")
	wantText(t, "forty", text(h.Series()), text(forty))
	wantAppend(t, head.New(0), several(0, 40, 1), "")
	wantAppend(t, head.New(0), []api.Series{{Labels: named(0), Samples: even(10, 39)}, {Labels: named(0), Samples: even(49, 1)}}, "")
	wantAppend(t, head.New(0), []api.Series{{Labels: named(3), Samples: even(10, 20)}, {Labels: named(1), Samples: even(1, 20)}}, "")

	for _, l := range [][]api.Series{
		{{Labels: named(0), Samples: even(10, 41)}},
		{{Labels: named(0), Samples: even(10, 1)}, {Labels: named(1), Samples: even(10, 40)}},
		{{Labels: named(0), Samples: even(10, 40)}, {Labels: named(0), Samples: even(50, 1)}},
		several(0, 41, 1),
		several(0, 61, 1),
		{{Labels: named(0), Samples: even(10, api.MaxSamples)}},
	} {
		wantAppend(t, head.New(0), l, "4")
	}
}

// 9.1: ErrLimit is told ahead of all other errors, at whatever place they are, and of series that are wrong the samples count, too.
func TestBatchFirst(t *testing.T) {
	for _, h := range []*head.Head{head.New(0), head.New(500), having(t, 0, "a=x 200:1"), fullOfSeries(t), fullOfSamples(t, 2000)} {
		for _, wrong := range append(wrongOnes(), series("a=x 1:1; new=x 0:1")...) {
			rest := api.Series{Labels: named(7), Samples: even(300, 41-len(wrong.Samples))}
			for _, l := range [][]api.Series{{wrong, rest}, {rest, wrong}, {wrong, rest, wrong}} {
				wantAppend(t, h, l, "4")
			}
		}
		for _, l := range [][]api.Series{
			{{Samples: even(1, 41)}}, {{Labels: named(0), Samples: slices.Repeat(even(1, 1), 41)}}, {{Labels: named(0), Samples: even(1, api.MaxSamples+1)}}, {{Labels: named(0), Samples: even(api.MaxTime-1, 41)}},
			{{Labels: named(0), Samples: even(-50, 41)}}, slices.Repeat(several(0, 1, 0), 41), several(0, 61, 0), slices.Repeat(series("a=x 1:1"), 41), {{Labels: named(100), Samples: even(1, 41)}},
		} {
			wantAppend(t, h, l, "4")
		}
	}
}

// 9.1: of forty samples in all that are wrong it is not ErrLimit: it is their own error.
func TestBatchNotYet(t *testing.T) {
	wantAppend(t, head.New(0), []api.Series{{Samples: even(1, 40)}}, "1 at 0")
	wantAppend(t, head.New(0), slices.Repeat(several(0, 1, 5), 40), "10 at 1")
	wantAppend(t, head.New(0), slices.Concat(several(0, 40, 5), series("a=x")), "1 at 40")
	wantAppend(t, head.New(0), slices.Repeat([]api.Series{{}}, 1000), "1 at 0")
}

// 9.1: ErrArg: labels that are not Right, samples that are not Right, none: an At at the first; none comes.
func TestWrong(t *testing.T) {
	right := series("a=x 50:1; b=y 50:2; c=z 50:3 51:4")
	for _, wrong := range wrongOnes() {
		for _, h := range []*head.Head{head.New(0), having(t, 0, "a=x 3:1; b=y 40:1")} {
			wantAppend(t, h, []api.Series{wrong}, "1 at 0")
			for place := range len(right) + 1 {
				l := slices.Insert(slices.Clone(right), place, wrong)
				wantAppend(t, h, l, fmt.Sprint("1 at ", place))
				wantAppend(t, h, append(l, wrong, api.Series{}), fmt.Sprint("1 at ", place))
			}
			wantAppend(t, h, right, "")
		}
	}
}

// 9.1: MaxSeries series may be, one more is ErrFull; those that are there take more.
func TestSeriesFull(t *testing.T) {
	h := fullOfSeries(t)
	for _, number := range []int{60, 99} {
		wantAppend(t, h, several(number, 1, 9), "12 at 0")
	}
	wantAppend(t, h, series("a=x 9:1"), "12 at 0")
	wantAppend(t, h, series("z=x 9:1"), "12 at 0")
	wantAppend(t, h, slices.Concat(several(3, 5, 9), several(60, 1, 9), several(4, 1, 10)), "12 at 5")
	wantAppend(t, h, several(20, 40, 9), "")
	if n := len(h.Series()); n != 60 {
		t.Errorf("%d series", n)
	}
}

// 9.1: the series of one Append count, each once.
func TestSeriesFullAtOnce(t *testing.T) {
	for _, before := range []int{23, 30, 39, 40} {
		room := 60 - before
		h := head.New(0)
		mustAppend(t, h, several(0, before, 5))
		wantAppend(t, h, several(before, room+1, 5), fmt.Sprint("12 at ", room))
		wantAppend(t, h, slices.Concat(several(before, room, 5), several(before+3, 1, 6), several(99, 1, 5)), fmt.Sprint("12 at ", room+1))
		wantAppend(t, h, slices.Concat(several(before, room, 5), several(before+3, 1, 6)), "")
		wantAppend(t, h, several(99, 1, 5), "12 at 0")
		wantAppend(t, h, several(0, 40, 7), "")
	}
	wantAppend(t, fullOfSeries(t), slices.Concat(several(59, 1, 9), several(60, 1, 9), several(61, 1, 9)), "12 at 1")
}

// 9.1: series that are gone, by Cut or by Gone, leave room for others.
func TestSeriesRoom(t *testing.T) {
	for _, take := range []func(h *head.Head){
		func(h *head.Head) { h.Gone(gone("n=0007 5 5")) },
		func(h *head.Head) { h.Gone(gone("n=0007 0 100")) },
		func(h *head.Head) {
			mustAppend(t, h, slices.Concat(several(0, 7, 9), several(8, 33, 9)))
			mustAppend(t, h, several(41, 19, 9))
			h.Cut(5)
		},
	} {
		h := fullOfSeries(t)
		take(h)
		wantAppend(t, h, several(60, 2, 9), "12 at 1")
		wantAppend(t, h, several(60, 1, 9), "")
		wantAppend(t, h, several(7, 1, 9), "12 at 0")
		wantAppend(t, h, several(61, 1, 9), "12 at 0")
		if l := h.Series(); len(l) != 60 || l[7].Labels[0].Value != "0008" || l[59].Labels[0].Value != "0060" {
			t.Errorf("the series are %s", text(l))
		}
	}
	h := fullOfSeries(t)
	h.Gone(gone("n=0007 4 4"))
	h.Cut(4)
	wantAppend(t, h, several(60, 1, 9), "12 at 0")
}

// 9.1: MaxSamples samples of a series may be, one more is ErrFull; also by several of one Append.
func TestSamplesFull(t *testing.T) {
	h := fullOfSamples(t, 2000)
	if l := h.Series(); len(l) != 1 || !slices.Equal(l[0].Samples[1960:], even(1961, 40)) || len(l[0].Samples) != 2000 {
		t.Errorf("it has %.200s", text(l))
	}
	wantAppend(t, h, series("a=x 2001:1"), "12 at 0")
	wantAppend(t, h, series("b=x 2001:1; a=x 9999:1; b=x 2002:1"), "12 at 1")
	wantAppend(t, h, series("b=x 1:1"), "")

	h = fullOfSamples(t, 1998)
	wantAppend(t, h, series("a=x 2001:1 2002:1 2003:1"), "12 at 0")
	wantAppend(t, h, series("a=x 2001:1; a=x 2002:1 2003:1"), "12 at 1")
	wantAppend(t, h, series("a=x 2001:1; a=x 2002:1; b=x 1:1; a=x 2003:1"), "12 at 3")
	wantAppend(t, h, series("a=x 2001:1; a=x 2002:2"), "")
	wantAppend(t, h, series("a=x 2003:1"), "12 at 0")

	h = fullOfSamples(t, 1960)
	wantAppend(t, h, []api.Series{{Labels: series("a=x")[0].Labels, Samples: even(3000, 40)}}, "")
	wantAppend(t, h, series("a=x 5000:1"), "12 at 0")
	h = fullOfSamples(t, 1961)
	wantAppend(t, h, []api.Series{{Labels: series("a=x")[0].Labels, Samples: even(3000, 40)}}, "12 at 0")
}

// 9.1: samples that are gone leave room for others.
func TestSamplesRoom(t *testing.T) {
	for _, take := range []func(h *head.Head){
		func(h *head.Head) { h.Cut(2) },
		func(h *head.Head) { h.Gone(gone("1 2")) },
		func(h *head.Head) { h.Gone(gone("a=x 1000 1001")) },
		func(h *head.Head) { h.Gone(gone("1999 5000")) },
	} {
		h := fullOfSamples(t, 2000)
		take(h)
		wantAppend(t, h, series("a=x 2001:1 2002:1 2003:1"), "12 at 0")
		wantAppend(t, h, series("a=x 2001:1 2002:1"), "")
		wantAppend(t, h, series("a=x 2003:1"), "12 at 0")
	}
}

// 9.1: where several errors hold of one series, the one that is told first.
func TestWhichError(t *testing.T) {
	for _, wrong := range wrongOnes() { // and the mark is above, no room is for a series, and a=x has as many samples as may be
		wantAppend(t, head.New(greatest), []api.Series{wrong}, "1 at 0")
		wantAppend(t, fullOfSeries(t), []api.Series{wrong}, "1 at 0")
		wantAppend(t, fullOfSamples(t, 2000), []api.Series{wrong}, "1 at 0")
	}
	wantAppend(t, head.New(5), series("a=x 3:1 3:1"), "1 at 0")
	wantAppend(t, head.New(5), series("a= 3:1"), "1 at 0")

	h := fullOfSeries(t)
	wantAppend(t, h, several(60, 1, 0), "10 at 0")
	wantAppend(t, h, several(60, 1, -1), "10 at 0")
	wantAppend(t, h, several(60, 1, 1), "12 at 0")
	wantAppend(t, h, several(59, 1, 5), "10 at 0")
	wantAppend(t, h, several(59, 1, 6), "")

	h = fullOfSamples(t, 2000)
	for time, want := range map[int64]string{-1: "10 at 0", 0: "10 at 0", 1: "10 at 0", 1000: "10 at 0", 1999: "10 at 0", 2000: "10 at 0", 2001: "12 at 0"} {
		wantAppend(t, h, series(fmt.Sprintf("a=x %d:1 3000:1", time)), want)
	}
	h.Cut(1)
	wantAppend(t, h, series("a=x 1:1"), "10 at 0")
	wantAppend(t, h, series("a=x 2000:1 2001:1"), "10 at 0")
	wantAppend(t, h, series("a=x 2001:1 2002:1"), "12 at 0")
}

// 9.1: where several series have an error, the first one's is told, whichever they are, and at its place.
func TestWhichSeries(t *testing.T) {
	h := head.New(0)
	for from := 1; from < 2000; from += 40 {
		mustAppend(t, h, []api.Series{{Labels: named(0), Samples: even(int64(from), 40)}})
	}
	mustAppend(t, h, several(1, 40, 5))
	mustAppend(t, h, several(41, 19, 5))
	right := several(1, 10, 6)
	kinds := []struct {
		one  api.Series
		want int
	}{
		{api.Series{Labels: named(20)}, 1}, {api.Series{Samples: even(9, 1)}, 1}, {api.Series{Labels: named(20), Samples: even(0, 1)}, 10}, {api.Series{Labels: named(70), Samples: even(0, 1)}, 10},
		{api.Series{Labels: named(70), Samples: even(9, 1)}, 12}, {api.Series{Labels: named(20), Samples: even(5, 1)}, 10}, {api.Series{Labels: named(0), Samples: even(2001, 1)}, 12}, {api.Series{Labels: named(0), Samples: even(2000, 1)}, 10},
	}
	for _, first := range kinds {
		for _, second := range kinds {
			for _, place := range []int{0, 1, 10} {
				l := slices.Insert(slices.Clone(right), place, first.one, second.one)
				wantAppend(t, h, l, fmt.Sprint(first.want, " at ", place))
				l = append(slices.Insert(slices.Clone(right), place, first.one), second.one)
				wantAppend(t, h, l, fmt.Sprint(first.want, " at ", place))
			}
		}
	}
	wantAppend(t, h, right, "")
}

// 9.1: what an Append that told an error had is nowhere: others may come in its place, and what comes then is as if it had not been.
func TestNoneCame(t *testing.T) {
	for _, c := range []struct{ text, want string }{
		{"a=x 6:99 7:99; b=x 6:99; a=x 7:99", "10 at 2"}, {"new=x 1:99; zoo=x 1:99; a=x 5:99", "10 at 2"}, {"a=x 6:99; a=x 7:99; a=x 8:99; a=", "1 at 3"},
		{"b=x 100:99; c=x 0:99", "10 at 1"}, {"a=x 6:99 7:99 8:99 9:99; a=x 10:99; b=x 2:99", "10 at 2"},
	} {
		h := having(t, 0, "a=x 3:1", "a=x 4:1", "a=x 5:1; b=x 5:1")
		for range 3 {
			wantAppend(t, h, series(c.text), c.want)
		}
		wantAppend(t, h, series("a=x 6:2; b=x 6:2; zoo=x 1:2"), "")
		wantText(t, "behind "+c.text, state(h), "0 a=x 3:1 4:1 5:1 6:2; b=x 5:1 6:2; zoo=x 1:2")
	}
}

// 9.1: the samples that are not above the time go, and are told; the mark is that time, if it was below.
func TestCut(t *testing.T) {
	const all = "a=x 3:1 5:2 9:3; b=x 4:4; c=x 9:5 12:6"
	for _, c := range []struct {
		at          int64
		want, stays string
	}{
		{least, "", "2 " + all}, {-5, "", "2 " + all}, {0, "", "2 " + all}, {1, "", "2 " + all}, {2, "", "2 " + all},
		{3, "a=x 3:1", "3 a=x 5:2 9:3; b=x 4:4; c=x 9:5 12:6"},
		{4, "a=x 3:1; b=x 4:4", "4 a=x 5:2 9:3; c=x 9:5 12:6"},
		{5, "a=x 3:1 5:2; b=x 4:4", "5 a=x 9:3; c=x 9:5 12:6"},
		{6, "a=x 3:1 5:2; b=x 4:4", "6 a=x 9:3; c=x 9:5 12:6"},
		{8, "a=x 3:1 5:2; b=x 4:4", "8 a=x 9:3; c=x 9:5 12:6"},
		{9, "a=x 3:1 5:2 9:3; b=x 4:4; c=x 9:5", "9 c=x 12:6"},
		{11, "a=x 3:1 5:2 9:3; b=x 4:4; c=x 9:5", "11 c=x 12:6"},
		{12, all, "12 "}, {13, all, "13 "}, {api.MaxTime, all, fmt.Sprint(api.MaxTime, " ")}, {greatest, all, fmt.Sprint(int64(greatest), " ")},
	} {
		h := having(t, 2, all)
		what := fmt.Sprint("Cut at ", c.at)
		wantText(t, what, text(h.Cut(c.at)), c.want)
		wantText(t, "behind "+what, state(h), c.stays)
		wantText(t, "the second "+what, text(h.Cut(c.at)), "")
		wantText(t, "behind the second "+what, state(h), c.stays)
		wantText(t, "a Cut below the mark", text(h.Cut(h.Mark()-1)), "")
		wantText(t, "behind a Cut below the mark", state(h), c.stays)
	}
}

// 9.1: Mark behind each call: Cut alone lets it be another one, and only one that is above.
func TestMark(t *testing.T) {
	h := head.New(-3)
	want := func(what string, mark int64) {
		t.Helper()
		if h.Mark() != mark {
			t.Errorf("the mark behind %s is %d, not %d", what, h.Mark(), mark)
		}
	}
	want("New", -3)
	mustAppend(t, h, series("a=x 10:1 20:1"))
	want("Append", -3)
	wantAppend(t, h, series("a=x 5:1"), "10 at 0")
	want("an Append that told an error", -3)
	h.Gone(gone("0 10"))
	want("Gone", -3)
	h.Series()
	want("Series", -3)
	for _, c := range []struct{ at, mark int64 }{{-4, -3}, {least, -3}, {-3, -3}, {-2, -2}, {-3, -2}, {7, 7}, {0, 7}, {7, 7}, {8, 8}, {25, 25}, {24, 25}, {greatest, greatest}, {0, greatest}} {
		h.Cut(c.at)
		want(fmt.Sprint("Cut at ", c.at), c.mark)
	}
	if h := head.New(5); len(h.Cut(3)) > 0 || h.Mark() != 5 {
		t.Error("Cut of a new Head, below its mark")
	}
}

// 9.1: Gone: the samples go whose series the matchers hold of, all of them, from one time to another one, both with them.
func TestGone(t *testing.T) {
	const all = "a=x 3:1 5:2 9:3; a=x b=y 4:4; a=xy 5:5; c=x 9:6 12:7"
	for _, c := range []struct{ gone, want string }{
		{"0 99", ""}, {"3 12", ""}, {"4 11", "a=x 3:1; c=x 12:7"}, {fmt.Sprint(int64(least), " ", int64(greatest)), ""},
		{"0 2", all}, {"13 99", all}, {"6 8", all}, {"10 11", all}, {"99 0", all}, {"9 5", all}, {"5 4", all}, {fmt.Sprint(int64(greatest), " ", int64(least)), all},
		{"3 3", "a=x 5:2 9:3; a=x b=y 4:4; a=xy 5:5; c=x 9:6 12:7"},
		{"5 5", "a=x 3:1 9:3; a=x b=y 4:4; c=x 9:6 12:7"},
		{"9 9", "a=x 3:1 5:2; a=x b=y 4:4; a=xy 5:5; c=x 12:7"},
		{"4 5", "a=x 3:1 9:3; c=x 9:6 12:7"},
		{"5 9", "a=x 3:1; a=x b=y 4:4; c=x 12:7"},
		{"12 12", "a=x 3:1 5:2 9:3; a=x b=y 4:4; a=xy 5:5; c=x 9:6"},
		{"a=x 0 99", "a=xy 5:5; c=x 9:6 12:7"}, {"a!=x 0 99", "a=x 3:1 5:2 9:3; a=x b=y 4:4"}, {"a^x 0 99", "c=x 9:6 12:7"}, {"a!^x 0 99", "a=x 3:1 5:2 9:3; a=x b=y 4:4; a=xy 5:5"},
		{"a= 0 99", "a=x 3:1 5:2 9:3; a=x b=y 4:4; a=xy 5:5"}, {"a!= 0 99", "c=x 9:6 12:7"}, {"none= 0 99", ""}, {"none!= 0 99", all}, {"a=z 0 99", all}, {"a!=z 0 99", ""},
		{"a=x b=y 0 99", "a=x 3:1 5:2 9:3; a=xy 5:5; c=x 9:6 12:7"}, {"a=x b= 0 99", "a=x b=y 4:4; a=xy 5:5; c=x 9:6 12:7"}, {"a=x c=x 0 99", all},
		{"a=x 4 5", "a=x 3:1 9:3; a=xy 5:5; c=x 9:6 12:7"}, {"a=x b= 4 5", "a=x 3:1 9:3; a=x b=y 4:4; a=xy 5:5; c=x 9:6 12:7"}, {"a=x 5 4", all}, {"c=x 0 8", all}, {"c=x 0 9", "a=x 3:1 5:2 9:3; a=x b=y 4:4; a=xy 5:5; c=x 12:7"},
		{"a^ a^ a^ a^ a^ a^ a^ a^ a^ c=x 12 12", "a=x 3:1 5:2 9:3; a=x b=y 4:4; a=xy 5:5; c=x 9:6"}, // more than may be asked: no sentence of Gone rules them out
	} {
		h := having(t, 2, all)
		for range 2 {
			h.Gone(gone(c.gone))
			wantText(t, "behind Gone of "+c.gone, state(h), "2 "+c.want)
		}
		wantText(t, "told by Cut, behind Gone of "+c.gone, text(h.Cut(99)), c.want)
		h.Gone(gone(c.gone))
		wantText(t, "behind both", state(h), "99 ")
	}
}

// 9.1: a series that lost its last samples takes those that are above all that it has still.
func TestBehindGone(t *testing.T) {
	for _, c := range []struct{ gone, text, want, behind string }{
		{"7 9", "a=x 5:9", "10 at 0", "a=x 3:1 5:2"},
		{"7 9", "a=x 6:9", "", "a=x 3:1 5:2 6:9"},
		{"7 9", "a=x 9:9", "", "a=x 3:1 5:2 9:9"},
		{"5 5", "a=x 5:9", "10 at 0", "a=x 3:1 9:3"},
		{"5 5", "a=x 9:9", "10 at 0", "a=x 3:1 9:3"},
		{"5 5", "a=x 10:9", "", "a=x 3:1 9:3 10:9"},
		{"4 99", "a=x 4:9", "", "a=x 3:1 4:9"},
		{"4 99", "a=x 3:9", "10 at 0", "a=x 3:1"},
		{"0 5", "a=x 8:9", "10 at 0", "a=x 9:3"},
		{"0 99", "a=x 1:9", "", "a=x 1:9"},
		{"0 99", "a=x 0:9", "10 at 0", ""},
		{"0 99", "a=x 4:9; a=x 5:8", "", "a=x 4:9 5:8"},
		{"0 99", "a=x 4:9; a=x 4:8", "10 at 1", ""},
	} {
		h := having(t, 0, "a=x 3:1 5:2 9:3")
		h.Gone(gone(c.gone))
		wantAppend(t, h, series(c.text), c.want)
		wantText(t, "behind Gone of "+c.gone+" and Append of "+c.text, state(h), "0 "+c.behind)
	}
}

// 9.1: a series that was cut off comes again as a new one, above the mark; below it and at it it does not.
func TestAgain(t *testing.T) {
	for _, c := range []struct {
		at           int64
		text         string
		want, behind string
	}{
		{9, "a=x 8:7", "10 at 0", "9 b=x 20:4"}, {9, "a=x 9:7", "10 at 0", "9 b=x 20:4"}, {9, "a=x 10:7", "", "9 a=x 10:7; b=x 20:4"},
		{15, "a=x 10:7", "10 at 0", "15 b=x 20:4"}, {15, "a=x 15:7", "10 at 0", "15 b=x 20:4"}, {15, "a=x 16:7", "", "15 a=x 16:7; b=x 20:4"}, {15, "a=x 15:7 16:7", "10 at 0", "15 b=x 20:4"},
		{8, "a=x 8:7", "10 at 0", "8 a=x 9:3; b=x 20:4"}, {8, "a=x 9:7", "10 at 0", "8 a=x 9:3; b=x 20:4"}, {8, "a=x 10:7", "", "8 a=x 9:3 10:7; b=x 20:4"},
		{20, "b=x 20:7", "10 at 0", "20 "}, {20, "b=x 21:7; a=x 21:7", "", "20 a=x 21:7; b=x 21:7"}, {20, "c=x 20:7", "10 at 0", "20 "}, {20, "c=x 21:7", "", "20 c=x 21:7"},
	} {
		h := having(t, 0, "a=x 3:1 5:2 9:3; b=x 20:4")
		h.Cut(c.at)
		wantAppend(t, h, series(c.text), c.want)
		wantText(t, fmt.Sprint("behind Cut at ", c.at, " and Append of ", c.text), state(h), c.behind)
	}
	h := having(t, 0, "a=x 3:1", "b=x 3:1")
	wantText(t, "cut off", text(h.Cut(3)), "a=x 3:1; b=x 3:1")
	mustAppend(t, h, series("b=x 4:2"))
	h.Gone(gone("b=x 4 4"))
	mustAppend(t, h, series("b=x 4:3"))
	wantText(t, "told is what came last", text(h.Cut(9)), "b=x 4:3")
}

// steps are calls of which rows are made.
func steps() []func(h keeper) string {
	appends := func(s string) func(h keeper) string {
		return func(h keeper) string { return "append " + s + ": " + told(h.Append(series(s))) }
	}
	cuts := func(at int64) func(h keeper) string {
		return func(h keeper) string { return fmt.Sprint("cut ", at, ": ", text(h.Cut(at))) }
	}
	goes := func(s string) func(h keeper) string {
		return func(h keeper) string {
			h.Gone(gone(s))
			return "gone " + s
		}
	}
	return []func(h keeper) string{
		appends("a=x 1:1"), appends("a=x 2:1 4:2"), appends("b=x 3:3; a=x 3:4"), appends("a=x b=x 2:5; a=x 5:6; a=x 6:7"), appends("b=x 5:8; a=x 4:9"),
		cuts(1), cuts(3), cuts(4), goes("3 4"), goes("a=x 1 3"), goes("b= 2 9"),
	}
}

// 9.1: all rows of five calls.
func TestRows(t *testing.T) {
	all := steps()
	count := 1
	for range 5 {
		count *= len(all)
	}
	for row := range count {
		h, m := head.New(0), &model{}
		what := ""
		for left := range 5 {
			n := row
			for range left {
				n /= len(all)
			}
			step := all[n%len(all)]
			got, want := step(h), step(m)
			if what += got + "; "; got != want {
				t.Fatalf("%s not %s", what, want)
			}
		}
		wantSame(t, what, h, m)
	}
}

// 9.1: any Appends, Cuts and Gones.
func TestAny(t *testing.T) {
	r := drawn(2)
	for range 1500 {
		mark := r.Int64N(9) - 4
		h, m := head.New(mark), &model{mark: mark}
		near := r.Int64N(9)
		for range 40 {
			what := ""
			switch r.IntN(8) {
			case 0:
				at := near + r.Int64N(30) - 20
				what = fmt.Sprint("Cut at ", at)
				wantText(t, what, text(h.Cut(at)), text(m.Cut(at)))
			case 1:
				g := anyGone(r, near)
				what = fmt.Sprint("Gone of ", g)
				h.Gone(g)
				m.Gone(g)
			default:
				l := anySeries(r, near, 5)
				what = "Append of " + text(l)
				wantText(t, what, told(h.Append(l)), told(m.Append(l)))
			}
			wantSame(t, what, h, m)
			near += r.Int64N(4)
		}
	}
}

// 9.1: any Appends and Gones where there is room for few series, or few samples, more.
func TestAnyFull(t *testing.T) {
	r := drawn(3)
	for range 20 {
		h, m := head.New(0), &model{}
		for _, k := range []keeper{h, m} {
			mustAppend(t, k, several(0, 38, 5))
			mustAppend(t, k, several(38, 19, 5))
			for from := 6; from < 1986; from += 36 {
				mustAppend(t, k, []api.Series{{Labels: named(3), Samples: even(int64(from), 36)}})
			}
		}
		for time := int64(2000); time < 2100; time += 9 {
			l := slices.Concat(anySeries(r, time, 2), []api.Series{{Labels: named(3), Samples: even(time, 1+r.IntN(9))}}, anySeries(r, time, 2))
			wantText(t, "Append of "+text(l), told(h.Append(l)), told(m.Append(l)))
			if r.IntN(3) == 0 {
				g := gone(fmt.Sprintf("n=%04d 0 %d", r.IntN(5), r.IntN(20)))
				h.Gone(g)
				m.Gone(g)
			}
			wantSame(t, "behind it", h, m)
		}
	}
}

// roomy are series whose lists, and what stands behind their lengths, are the caller's: each has one more behind it.
func roomy(l []api.Series) []api.Series {
	out := make([]api.Series, 0, len(l)+1)
	for _, x := range l {
		labels := append(append(make([]api.Label, 0, len(x.Labels)+9), x.Labels...), api.Label{Name: "behind", Value: "labels"})
		samples := append(append(make([]api.Sample, 0, len(x.Samples)+9), x.Samples...), api.Sample{Time: 77, Value: 77})
		out = append(out, api.Series{Labels: labels[:len(x.Labels)], Samples: samples[:len(x.Samples)]})
	}
	return append(out, api.Series{Labels: named(77)})[:len(l)]
}

// whole is a list as it lies, with what stands behind the lengths, as far as its room goes.
func whole(l []api.Series) string {
	var out []api.Series
	for _, x := range l[:cap(l)] {
		out = append(out, api.Series{Labels: x.Labels[:cap(x.Labels)], Samples: x.Samples[:cap(x.Samples)]})
	}
	return text(out)
}

// spoil writes into all lists that came out, or were handed in, and behind their lengths.
func spoil(l []api.Series) {
	for i, x := range l[:cap(l)] {
		for j := range x.Labels[:cap(x.Labels)] {
			x.Labels[:cap(x.Labels)][j] = api.Label{Name: "spoilt", Value: "spoilt"}
		}
		for j := range x.Samples[:cap(x.Samples)] {
			x.Samples[:cap(x.Samples)][j] = api.Sample{Time: -99, Value: -99}
		}
		l[:cap(l)][i] = api.Series{}
	}
}

// P4: what is handed to Append is neither written into nor kept, also where a series takes more behind it, and where Append tells an error.
func TestHandedIn(t *testing.T) {
	h := head.New(0)
	var given [][]api.Series
	for _, c := range []struct{ text, want string }{
		{"b=x 1:1; a=x 1:1 2:2", ""}, {"a=x 3:3", ""}, {"c=x 1:1; a=x 4:4; a=x 5:5; b=x 2:2", ""}, {"a=x 6:6; b=x 2:3", "10 at 1"}, {"", ""}, {"a=x 6:7 7:7; d=x 1:1", ""}, {"new=x 5:1; a=x 8:8; a=", "1 at 2"},
	} {
		l := roomy(series(c.text))
		was := whole(l)
		wantAppend(t, h, l, c.want)
		wantText(t, "handed in", whole(l), was)
		given = append(given, l)
	}
	want := state(h)
	wantText(t, "all", want, "0 a=x 1:1 2:2 3:3 4:4 5:5 6:7 7:7; b=x 1:1 2:2; c=x 1:1; d=x 1:1")
	for _, l := range given {
		spoil(l)
		wantText(t, "behind the caller's change", state(h), want)
	}
	wantText(t, "told by Cut", fmt.Sprint("0 ", text(h.Cut(9))), want)
}

// P4: the matchers that are handed to Gone are not written into, nor kept.
func TestHandedInMatchers(t *testing.T) {
	h := having(t, 0, "a=x 1:1 5:5; b=x 1:1")
	m := append(make([]api.Matcher, 0, 9), api.Matcher{Name: "a", Op: api.Is, Value: "x"}, api.Matcher{Name: "behind"})
	h.Gone(api.Gone{Match: m[:1], From: 1, To: 1})
	if !slices.Equal(m, []api.Matcher{{Name: "a", Op: api.Is, Value: "x"}, {Name: "behind"}}) {
		t.Errorf("the matchers became %v", m)
	}
	m[0] = api.Matcher{}
	wantText(t, "behind the caller's change", state(h), "0 a=x 5:5; b=x 1:1")
}

// P4: what Series and Cut tell is the caller's: written into, it changes no later answer, nor does a later call change it.
func TestComesOut(t *testing.T) {
	const first, second = "a=x 1:1 2:2 5:5; b=x 1:1; c=x 5:5", "a=x 6:6; b=x 6:6; d=x 6:6"
	h := having(t, 0, first)
	spoil(h.Series())
	wantText(t, "Series behind the caller's change", text(h.Series()), first)
	kept, once := h.Series(), h.Series()
	mustAppend(t, h, series(second))
	spoil(once)
	const both = "a=x 1:1 2:2 5:5 6:6; b=x 1:1 6:6; c=x 5:5; d=x 6:6"
	wantText(t, "Series behind both", text(h.Series()), both)

	cut := h.Cut(2)
	wantText(t, "Cut", text(cut), "a=x 1:1 2:2; b=x 1:1")
	const left = "2 a=x 5:5 6:6; b=x 6:6; c=x 5:5; d=x 6:6"
	told := text(cut)
	mustAppend(t, h, series("a=x 7:7"))
	h.Gone(gone("a=x 7 7"))
	wantText(t, "what Cut told", text(cut), told)
	spoil(cut)
	wantText(t, "behind the caller's change of what Cut told", state(h), left)
	h.Gone(gone("b=x 0 9"))
	spoil(h.Series())
	spoil(h.Cut(5))
	wantText(t, "at last", state(h), "5 a=x 6:6; d=x 6:6")
	wantText(t, "what Series told first", text(kept), first)
}

// P4: no two lists of one answer share memory, nor do those of two answers: each grown to its whole room leaves the others.
func TestApartLists(t *testing.T) {
	h := head.New(0)
	for time := int64(1); time < 60; time++ {
		mustAppend(t, h, several(1, 3, time))
	}
	check := func(what string, l, other []api.Series) {
		t.Helper()
		was := text(other)
		for i := range l {
			rest := text(slices.Delete(slices.Clone(l), i, i+1))
			spoil(l[i : i+1 : i+1])
			wantText(t, what+": the other lists", text(slices.Delete(slices.Clone(l), i, i+1)), rest)
		}
		wantText(t, what+": the other answer", text(other), was)
	}
	check("Series", h.Series(), h.Series())
	check("Cut", h.Cut(20), h.Series())
	check("Series behind Cut", h.Series(), h.Series())
}

// P4: what a Head tells hangs on its own calls alone.
func TestApart(t *testing.T) {
	g, h := having(t, 0, "a=x 1:1"), having(t, 5, "b=x 9:1")
	g.Cut(3)
	mustAppend(t, h, series("a=x 6:6"))
	g.Gone(gone("0 99"))
	wantText(t, "the one", state(g), "3 ")
	wantText(t, "the other one", state(h), "5 a=x 6:6; b=x 9:1")
}

// P1: Gone of matchers that may not be asked ends, and takes out what label.All says.
func TestGoneWrong(t *testing.T) {
	for _, m := range []api.Matcher{{}, {Name: "a", Op: -1, Value: "x"}, {Name: "a", Op: 4, Value: "x"}, {Name: "a", Op: math.MaxInt}, {Name: "\xff", Op: api.IsNot, Value: "\xff"}, {Name: "", Op: api.Begins}, {Name: "a", Value: strings.Repeat("x", 99)}} {
		h, want := having(t, 0, "a=x 1:1; b=x 1:1"), &model{}
		mustAppend(t, want, series("a=x 1:1; b=x 1:1"))
		g := api.Gone{Match: []api.Matcher{m}, From: 0, To: 9}
		h.Gone(g)
		want.Gone(g)
		wantSame(t, fmt.Sprint("Gone of ", m), h, want)
	}
}

// P1: no call of no Head panics: it has nothing, and takes nothing. The zero value is a new one of the mark 0.
func TestNone(t *testing.T) {
	var none *head.Head
	for _, l := range [][]api.Series{nil, series("a=x 1:1"), {{}}} {
		wantText(t, "Append of no Head", told(none.Append(l)), "7")
	}
	none.Gone(gone("0 9"))
	if none.Mark() != 0 || len(none.Cut(9)) > 0 || none.Mark() != 0 || len(none.Series()) > 0 {
		t.Error("no Head has something")
	}
	var zero head.Head
	mustAppend(t, &zero, series("a=x 1:1"))
	wantAppend(t, &zero, series("b=x 0:1"), "10 at 0")
	wantText(t, "the zero value", state(&zero), "0 a=x 1:1")
}
