package block_test

import (
	"fmt"
	"math"
	"slices"
	"strings"
	"testing"

	"raingauge/api"
	"raingauge/block"
	"raingauge/chunk"
	"raingauge/head"
)

// The heads of the chapter's functions, and what a Block has.
var (
	_ func(b block.Block) bool                           = block.Right
	_ func(b block.Block) (string, error)                = block.Write
	_ func(s string) (block.Block, error)                = block.Read
	_ func(l []api.Series, gone []api.Gone) []api.Series = block.Without
	_ func(a, b []api.Series) []api.Series               = block.Merge
	_ struct {
		To, Old int64
		Series  []api.Series
	} = block.Block{}
)

const least, greatest = math.MinInt64, math.MaxInt64

// even are samples at even steps.
func even(from int64, count int) (l []api.Sample) {
	for i := range int64(count) {
		l = append(l, api.Sample{Time: from + i, Value: i % 7})
	}
	return l
}

// several are so many series of one sample each, in order.
func several(count int) (l []api.Series) {
	for number := range count {
		l = append(l, api.Series{Labels: []api.Label{{Name: "n", Value: fmt.Sprintf("%05d", number)}}, Samples: even(int64(number), 1)})
	}
	return l
}

// wrongLabels are labels that may not be a series', each for another reason.
func wrongLabels() (l [][]api.Label) {
	for _, words := range []string{
		"a=", "=x", "1=x", "b=x a=x", "a=x a=x", "a=x a=y", "a=x b=", `a="`, `a=\`, "a-b=x", "a=ä",
		strings.Repeat("n", 25) + "=v", "a=" + strings.Repeat("v", 25), "a=v b=v c=v d=v e=v f=v g=v h=v i=v",
	} {
		l = append(l, series(words)[0].Labels)
	}
	return append(l, nil, []api.Label{{Name: "a", Value: "\n"}}, []api.Label{{Name: "a b", Value: "x"}})
}

// wrongSamples are samples that may not be a block's, up to whatever time, each for another reason.
func wrongSamples() [][]api.Sample {
	of := func(text string) []api.Sample { return series(text)[0].Samples }
	return [][]api.Sample{
		nil, {}, of("5:1 5:1"), of("5:1 5:2"), of("5:1 4:1"), of("1:1 9:1 8:1"), of("9:1 1:1 2:1"),
		of(fmt.Sprintf("%d:1", -api.MaxTime-1)), of(fmt.Sprintf("%d:1 5:1", -api.MaxTime-1)), of(fmt.Sprintf("%d:1", api.MaxTime+1)), of(fmt.Sprintf("5:1 %d:1", api.MaxTime+1)),
		of(fmt.Sprintf("%d:1", int64(least))), of(fmt.Sprintf("%d:1", int64(greatest))), even(0, api.MaxSamples+1),
	}
}

// rights are blocks that are Right.
func rights() []block.Block {
	const last = api.MaxTime
	ends := fmt.Sprintf("a=x %d:%d 0:%d %d:-1", -last, int64(least), int64(greatest), last)
	return []block.Block{
		{}, {Old: -1}, {To: 9}, {To: -9, Old: 7}, {To: last, Old: greatest}, {To: -last, Old: -1}, {Series: []api.Series{}},
		upTo(1, "a=x 1:1"), upTo(9, "a=x 1:5 2:-6 9:0"), upTo(9, "a=x 1:5; b=x 1:6"), upTo(-3, "a=x -9:1 -4:2; b=x -3:3"),
		upTo(60, "A=z 1:1; _=x 2:2; a=x 3:3; a=x b=x 4:4; a=x b=y 5:5; a=xy 6:6; a=y 7:7; aa=x 8:8; b=x 9:9"),
		upTo(last, ends), {To: last, Old: 3, Series: series(ends + "; b=y 1:1")}, upTo(-last, fmt.Sprintf("a=x %d:1; b=x %d:2", -last, -last)),
		{To: api.MaxSamples, Series: []api.Series{{Labels: series("a=x")[0].Labels, Samples: even(1, api.MaxSamples)}}},
		upTo(9, strings.Repeat("n", 24)+"="+strings.Repeat("v", 24)+" 9:9"), upTo(9, "a=v b=v c=v d=v e=v f=v g=v h=v 9:9; b=!~ 3:3"),
		{To: 200, Old: 29, Series: several(200)}, // how many series there may be, no sentence says
	}
}

// 10.1: blocks without series, of one, of several, that are Right: they are written, and read.
func TestRight(t *testing.T) {
	for _, b := range rights() {
		wantRight(t, b)
	}
}

// 10.1: labels must be Right: at each place.
func TestLabelsWrong(t *testing.T) {
	for _, labels := range wrongLabels() {
		wrong := api.Series{Labels: labels, Samples: even(1, 2)}
		for place := range 3 {
			l := slices.Insert(series("_=x 1:1; z=x 2:2"), place, wrong)
			wantWrong(t, block.Block{To: 9, Series: l})
		}
		wantWrong(t, block.Block{To: 9, Series: []api.Series{wrong}})
		wantForm(t, "labels that are not Right", blockBytes(block.Block{To: 9, Series: []api.Series{wrong}}))
	}
}

// 10.1: labels must rise, none twice, next to each other or not.
func TestLabelsOrder(t *testing.T) {
	for _, c := range []struct {
		text  string
		right bool
	}{
		{"a=x 1:1; b=x 1:1", true}, {"b=x 1:1; a=x 1:1", false}, {"a=x 1:1; a=y 1:1", true}, {"a=y 1:1; a=x 1:1", false},
		{"a=x 1:1; a=xy 1:1", true}, {"a=xy 1:1; a=x 1:1", false}, {"a=x 1:1; a=x b=x 1:1", true}, {"a=x b=x 1:1; a=x 1:1", false},
		{"B=x 1:1; a=x 1:1", true}, {"a=x 1:1; B=x 1:1", false}, {"a=z 1:1; aa=x 1:1", true}, {"aa=x 1:1; a=z 1:1", false}, {"a=x b=z 1:1; a=xy 1:1", true}, {"a=xy 1:1; a=x b=z 1:1", false},
		{"a=x 1:1; a=x 1:1", false}, {"a=x 1:1; a=x 2:2", false}, {"a=x 1:1; a=x 1:1; b=x 1:1", false}, {"_=x 1:1; a=x 1:1; a=x 1:1", false}, {"a=x b=y 1:1; a=x b=y 1:1", false},
		{"a=x 1:1; b=x 1:1; a=x 1:1", false}, {"a=x 1:1; b=x 1:1; c=x 1:1; a=x 2:2", false}, {"a=x 1:1; b=x 1:1; c=x 1:1; b=x 2:2", false},
		{"a=x 1:1; b=x 1:1; c=x 1:1", true}, {"a=x 1:1; c=x 1:1; b=x 1:1", false}, {"b=x 1:1; a=x 1:1; c=x 1:1", false}, {"c=x 1:1; b=x 1:1; a=x 1:1", false},
	} {
		if check(t, upTo(9, c.text)) != c.right {
			t.Errorf("the labels of %s: %v is not asked", c.text, c.right)
		}
	}
}

// 10.1: samples must be Right, and at least one: at each place.
func TestSamplesWrong(t *testing.T) {
	for _, samples := range wrongSamples() {
		wrong := api.Series{Labels: series("b=x")[0].Labels, Samples: samples}
		for _, to := range []int64{9, api.MaxTime} {
			for place, names := range []string{"c=x 1:1; d=x 2:2", "a=x 1:1; c=x 2:2", "_=x 1:1; a=x 2:2"} {
				b := block.Block{To: to, Series: slices.Insert(series(names), place, wrong)}
				wantWrong(t, b)
				wantForm(t, blockText(b), blockBytes(b))
			}
			wantWrong(t, block.Block{To: to, Series: []api.Series{wrong}})
		}
	}
}

// 10.1: no sample is above To: the last time below it, at it, above it, in the first series, in the last.
func TestAboveTo(t *testing.T) {
	for _, to := range []int64{-api.MaxTime + 1, -7, -1, 0, 1, 7, api.MaxTime - 1} {
		for _, c := range []struct {
			first, last int64
			right       bool
		}{
			{to - 1, to - 1, true}, {to, to - 1, true}, {to - 1, to, true}, {to, to, true},
			{to + 1, to, false}, {to, to + 1, false}, {to + 1, to - 1, false}, {to - 1, to + 1, false}, {to + 1, to + 1, false},
		} {
			b := upTo(to, fmt.Sprintf("a=x %d:1; b=x %d:1; c=x %d:1", c.first, to, c.last))
			if check(t, b) != c.right {
				t.Errorf("%s: %v is not asked", blockText(b), c.right)
			}
		}
		check(t, upTo(to, fmt.Sprintf("a=x %d:1 %d:1", to, to+1)))
		wantWrong(t, upTo(to, fmt.Sprintf("a=x %d:1 %d:1", to, to+1)))
		wantWrong(t, upTo(to, fmt.Sprintf("a=x %d:1 %d:1; b=x %d:1", to-1, to+1, to)))
	}
	wantRight(t, upTo(api.MaxTime, fmt.Sprintf("a=x %d:1", api.MaxTime)))
	wantRight(t, upTo(-api.MaxTime, fmt.Sprintf("a=x %d:1", -api.MaxTime)))
	wantWrong(t, upTo(-api.MaxTime, fmt.Sprintf("a=x %d:1", -api.MaxTime+1)))
	wantWrong(t, upTo(api.MaxTime+1, fmt.Sprintf("a=x %d:1", api.MaxTime+1)))
}

// 10.1: To is from -MaxTime to MaxTime.
func TestTo(t *testing.T) {
	for _, c := range []struct {
		to    int64
		right bool
	}{
		{least, false}, {-api.MaxTime - 1, false}, {-api.MaxTime, true}, {-api.MaxTime + 1, true}, {-1, true}, {0, true}, {1, true},
		{api.MaxTime - 1, true}, {api.MaxTime, true}, {api.MaxTime + 1, false}, {greatest, false},
	} {
		if check(t, upTo(c.to, "")) != c.right {
			t.Errorf("To %d: %v is not asked", c.to, c.right)
		}
		one := upTo(c.to, fmt.Sprintf("a=x %d:1", -api.MaxTime))
		if check(t, one) != c.right {
			t.Errorf("To %d, with a series: %v is not asked", c.to, c.right)
		}
	}
}

// 10.1: Old is not below -1.
func TestOld(t *testing.T) {
	for _, c := range []struct {
		old   int64
		right bool
	}{
		{least, false}, {least + 1, false}, {-3, false}, {-2, false}, {-1, true}, {0, true}, {1, true}, {api.MaxTime + 1, true}, {greatest - 1, true}, {greatest, true},
	} {
		for _, l := range [][]api.Series{nil, series("a=x 1:1"), series("a=x 1:1; b=x 2:2")} {
			if check(t, block.Block{To: 9, Old: c.old, Series: l}) != c.right {
				t.Errorf("Old %d: %v is not asked", c.old, c.right)
			}
		}
	}
}

// 10.1: the bytes of blocks, written out: To and Old as numbers, then the series.
func TestBytes(t *testing.T) {
	const a, b, one = "0000000000000001 0000000000000001 61 0000000000000001 78", "0000000000000001 0000000000000001 62 0000000000000002 7879", "0000000000000001"
	for _, c := range []struct {
		b      block.Block
		digits string
	}{
		{block.Block{}, "0000000000000000 0000000000000000 0000000000000000"},
		{block.Block{To: 9, Old: -1}, "0000000000000009 ffffffffffffffff 0000000000000000"},
		{block.Block{To: -2, Old: 258}, "fffffffffffffffe 0000000000000102 0000000000000000"},
		{block.Block{To: api.MaxTime, Old: greatest}, "0000010000000000 7fffffffffffffff 0000000000000000"},
		{block.Block{To: -api.MaxTime, Old: 0}, "ffffff0000000000 0000000000000000 0000000000000000"},
		{upTo(1, "a=x 1:1"), "0000000000000001 ffffffffffffffff" + one + a + "0000000000000003 8a2880"}, // 100010 100010 100010
		{upTo(0, "a=x 0:0"), "0000000000000000 ffffffffffffffff" + one + a + "0000000000000001 88"},     // 100010 0 0
		{block.Block{To: 5, Old: 2, Series: series("a=x 0:0; b=xy 1:1")}, "0000000000000005 0000000000000002 0000000000000002" + a + "0000000000000001 88" + b + "0000000000000003 8a2880"},
	} {
		s, err := block.Write(c.b)
		wantErrno(t, blockText(c.b), err, api.OK)
		wantText(t, blockText(c.b), fmt.Sprintf("%x", s), strings.ReplaceAll(c.digits, " ", ""))
		got, err := block.Read(bytesOf(c.digits))
		wantErrno(t, c.digits, err, api.OK)
		wantText(t, c.digits, blockText(got), blockText(c.b))
	}
}

// 10.1: even steps cost little, put away, too.
func TestFewBytes(t *testing.T) {
	b := upTo(api.MaxSamples, "a=x 1:1")
	for time := int64(2); time <= api.MaxSamples; time++ {
		b.Series[0].Samples = append(b.Series[0].Samples, api.Sample{Time: time, Value: 1})
	}
	s, err := block.Write(b)
	if err != nil || len(s) > 24+26+8+api.MaxSamples/4+10 {
		t.Errorf("%d bytes, %v", len(s), err)
	}
	wantRight(t, b)
}

// 10.1: Read of each beginning of what Write tells, of it with bytes behind it, and of no bytes: ErrForm.
func TestReadCutOrLonger(t *testing.T) {
	wantForm(t, "no bytes", "")
	r := drawn(1)
	l := rights()
	for range 40 {
		l = append(l, block.Block{To: 50, Old: r.Int64N(9) - 1, Series: anySeries(r, 4)})
	}
	for _, b := range l {
		s := blockBytes(b)
		for n := range min(len(s), 400) {
			wantForm(t, fmt.Sprint(blockText(b), " cut behind ", n), s[:n])
			wantForm(t, fmt.Sprint(blockText(b), " cut ahead of the last ", n+1), s[:len(s)-n-1])
			wantForm(t, fmt.Sprint(blockText(b), " without the first ", n+1), s[n+1:])
		}
		for _, behind := range []string{"\x00", "\x01", "\xff", "a", number(0), number(-1), s[16:], s} {
			wantForm(t, fmt.Sprintf("%s, with %.50x behind it", blockText(b), behind), s+behind)
		}
	}
}

// 10.1: Read of what Write told with one byte changed at each place: it is what Write writes just so, or ErrForm.
func TestReadChanged(t *testing.T) {
	read, not := 0, 0
	for _, b := range []block.Block{{}, upTo(9, ""), upTo(9, "a=x 1:1"), upTo(-api.MaxTime, fmt.Sprintf("a=x %d:1", -api.MaxTime)), {To: 9, Old: 3, Series: series("a=x 1:1 3:2 9:3; b=y 4:4; b=yy 5:5")}, upTo(30, "at=roof job=rain 10:5 20:5 30:6")} {
		s := blockBytes(b)
		for place := range s {
			bytes := []byte(s)
			for c := range 256 {
				bytes[place] = byte(c)
				if checkRead(t, string(bytes)) {
					read++
				} else {
					not++
				}
			}
		}
	}
	if read < 1000 || not < 1000 {
		t.Errorf("%d are read, %d are not", read, not)
	}
}

// 10.1: likewise with bytes changed, put in, and taken out at several places.
func TestReadBent(t *testing.T) {
	r := drawn(2)
	read := 0
	for range 5000 {
		b := []byte(blockBytes(block.Block{To: 30, Old: r.Int64N(4) - 1, Series: anySeries(r, 3)}))
		for range r.IntN(4) {
			place := r.IntN(len(b))
			switch r.IntN(4) {
			case 0:
				b = slices.Insert(b, place, byte(r.IntN(3)))
			case 1:
				b = slices.Delete(b, place, min(place+1+r.IntN(9), len(b)))
			case 2:
				b[place] ^= 1 << r.IntN(8)
			default:
				b[place] = byte(r.IntN(9))
			}
			if len(b) == 0 {
				break
			}
		}
		if checkRead(t, string(b)) {
			read++
		}
	}
	if read < 1000 || read > 4000 {
		t.Errorf("%d of 5000 are read", read)
	}
}

// 10.1: Read of bytes that are a block but for one thing that Right asks: ErrForm.
func TestReadWrong(t *testing.T) {
	for what, b := range map[string]block.Block{
		"To above":              upTo(api.MaxTime+1, "a=x 1:1; b=x 2:2"),
		"To below":              upTo(-api.MaxTime-1, ""),
		"Old below":             {To: 9, Old: -2, Series: series("a=x 1:1; b=x 2:2")},
		"labels that fall":      upTo(9, "b=x 1:1; a=x 2:2"),
		"labels twice":          upTo(9, "a=x 1:1; a=x 2:2"),
		"labels twice, apart":   upTo(9, "a=x 1:1; b=x 2:2; a=x 3:3"),
		"no labels":             upTo(9, "1:1"),
		"a label that is wrong": upTo(9, "a=x b= 1:1"),
		"no samples":            upTo(9, "a=x 1:1; b=x"),
		"a time above To":       upTo(9, "a=x 1:1; b=x 9:1 10:2"),
		"a time above To first": upTo(9, "a=x 10:1; b=x 9:1"),
		"times that fall":       upTo(9, "a=x 2:1 1:1"),
		"a time twice":          upTo(9, "a=x 2:1 2:1"),
	} {
		wantForm(t, what, blockBytes(b))
		wantWrong(t, b)
	}
	wantRight(t, upTo(9, "a=x 1:1; b=x 9:1"))
}

// 10.1: any blocks, most of them Right but for one thing at most.
func TestAnyBlock(t *testing.T) {
	r := drawn(3)
	right := 0
	for range 5000 {
		b := block.Block{To: 8 + r.Int64N(25), Old: r.Int64N(6) - 1, Series: anySeries(r, 4)}
		if n := len(b.Series); n > 0 {
			i, j := r.IntN(n), r.IntN(n)
			x := &b.Series[i]
			switch r.IntN(8) {
			case 0:
				b.Series[i], b.Series[j] = b.Series[j], b.Series[i]
			case 1:
				b.Series[i].Labels = b.Series[j].Labels
			case 2:
				x.Samples = x.Samples[:r.IntN(len(x.Samples))]
			case 3:
				k := r.IntN(len(x.Samples))
				x.Samples[0], x.Samples[k] = x.Samples[k], x.Samples[0]
			case 4:
				b.Old = r.Int64N(6) - 5
			}
		}
		if check(t, b) {
			right++
		}
	}
	if right < 1000 || right > 4500 {
		t.Errorf("%d of 5000 are Right", right)
	}
}

// wantWithout: Without of texts' series and of what is gone of them.
func wantWithout(t *testing.T, all, gone, want string) {
	t.Helper()
	l, g := series(all), gones(gone)
	what := "Without of " + all + " and of " + gone
	wantText(t, what, text(block.Without(l, g)), want)
	wantText(t, "the model's "+what, text(modelWithout(l, g)), want)
}

// 10.2: Without of one Gone: of no series, of some, of all; From above To, at a sample, between samples, at the ends of time; no matchers.
func TestWithout(t *testing.T) {
	const all = "a=x 3:1 5:2 9:3; a=x b=y 4:4; a=xy 5:5; c=x 9:6 12:7"
	for _, c := range []struct{ gone, want string }{
		{"", all},
		{"0 99", ""}, {"3 12", ""}, {"4 11", "a=x 3:1; c=x 12:7"}, {fmt.Sprint(int64(least), " ", int64(greatest)), ""}, {fmt.Sprint(-api.MaxTime, " ", api.MaxTime), ""},
		{"0 2", all}, {"13 99", all}, {"6 8", all}, {"10 11", all}, {"99 0", all}, {"9 5", all}, {"5 4", all}, {fmt.Sprint(int64(greatest), " ", int64(least)), all},
		{fmt.Sprint(int64(least), " ", int64(least)), all}, {fmt.Sprint(int64(greatest), " ", int64(greatest)), all}, {fmt.Sprint(int64(least), " 3"), "a=x 5:2 9:3; a=x b=y 4:4; a=xy 5:5; c=x 9:6 12:7"}, {fmt.Sprint("12 ", int64(greatest)), "a=x 3:1 5:2 9:3; a=x b=y 4:4; a=xy 5:5; c=x 9:6"},
		{"3 3", "a=x 5:2 9:3; a=x b=y 4:4; a=xy 5:5; c=x 9:6 12:7"},
		{"5 5", "a=x 3:1 9:3; a=x b=y 4:4; c=x 9:6 12:7"},
		{"9 9", "a=x 3:1 5:2; a=x b=y 4:4; a=xy 5:5; c=x 12:7"},
		{"4 5", "a=x 3:1 9:3; c=x 9:6 12:7"},
		{"5 9", "a=x 3:1; a=x b=y 4:4; c=x 12:7"},
		{"12 12", "a=x 3:1 5:2 9:3; a=x b=y 4:4; a=xy 5:5; c=x 9:6"},
		{"a=x 0 99", "a=xy 5:5; c=x 9:6 12:7"}, {"a!=x 0 99", "a=x 3:1 5:2 9:3; a=x b=y 4:4"}, {"a^x 0 99", "c=x 9:6 12:7"}, {"a!^x 0 99", "a=x 3:1 5:2 9:3; a=x b=y 4:4; a=xy 5:5"},
		{"a= 0 99", "a=x 3:1 5:2 9:3; a=x b=y 4:4; a=xy 5:5"}, {"a!= 0 99", "c=x 9:6 12:7"}, {"none= 0 99", ""}, {"none!= 0 99", all}, {"a=z 0 99", all}, {"a!=z 0 99", ""},
		{"a=x b=y 0 99", "a=x 3:1 5:2 9:3; a=xy 5:5; c=x 9:6 12:7"}, {"a=x b= 0 99", "a=x b=y 4:4; a=xy 5:5; c=x 9:6 12:7"}, {"a=x c=x 0 99", all},
		{"a=x 4 5", "a=x 3:1 9:3; a=xy 5:5; c=x 9:6 12:7"}, {"a=x b= 4 5", "a=x 3:1 9:3; a=x b=y 4:4; a=xy 5:5; c=x 9:6 12:7"}, {"a=x 5 4", all}, {"c=x 0 8", all}, {"c=x 0 9", "a=x 3:1 5:2 9:3; a=x b=y 4:4; a=xy 5:5; c=x 12:7"},
	} {
		wantWithout(t, all, c.gone, c.want)
		wantWithout(t, "", c.gone, "")
	}
}

// 10.2: Without of several Gones that lie apart, overlap, touch, lie in one another, and are the same; of several series.
func TestWithoutSeveral(t *testing.T) {
	const all = "a=x 1:1 2:2 3:3 4:4 5:5 6:6; b=x 2:2 4:4 6:6"
	for _, c := range []struct{ gone, want string }{
		{"1 1; 3 3", "a=x 2:2 4:4 5:5 6:6; b=x 2:2 4:4 6:6"},
		{"1 3; 5 6", "a=x 4:4; b=x 4:4"},
		{"5 6; 1 3", "a=x 4:4; b=x 4:4"},
		{"1 3; 2 4", "a=x 5:5 6:6; b=x 6:6"},
		{"2 3; 4 5", "a=x 1:1 6:6; b=x 6:6"},
		{"1 6; 3 4", ""}, {"3 4; 1 6", ""}, {"1 3; 4 6", ""},
		{"2 3; 2 3", "a=x 1:1 4:4 5:5 6:6; b=x 4:4 6:6"}, {"2 3; 2 3; 2 3", "a=x 1:1 4:4 5:5 6:6; b=x 4:4 6:6"},
		{"a=x 1 6; b=x 1 6", ""}, {"a=x 1 3; b=x 4 6", "a=x 4:4 5:5 6:6; b=x 2:2"}, {"b=x 4 6; a=x 1 3", "a=x 4:4 5:5 6:6; b=x 2:2"},
		{"a=x 2 2; 4 4; b=x 6 6", "a=x 1:1 3:3 5:5 6:6; b=x 2:2"},
		{"b=x 2 2; b=x 4 4; b=x 6 6", "a=x 1:1 2:2 3:3 4:4 5:5 6:6"},
		{"6 1; 2 2", "a=x 1:1 3:3 4:4 5:5 6:6; b=x 4:4 6:6"}, {"2 2; 6 1", "a=x 1:1 3:3 4:4 5:5 6:6; b=x 4:4 6:6"},
		{"c=x 1 6; 7 9; -5 0", all}, {"a=y 0 9; b!^x a!=x 0 9; 9 0", "a=x 1:1 2:2 3:3 4:4 5:5 6:6; b=x 2:2 4:4 6:6"},
	} {
		wantWithout(t, all, c.gone, c.want)
	}
}

// 10.2: series without samples are gone, also where they had none, and where nothing is gone.
func TestWithoutNone(t *testing.T) {
	wantWithout(t, "a=x; b=x 1:1; c=x", "", "b=x 1:1")
	wantWithout(t, "a=x; b=x 1:1; c=x", "5 9", "b=x 1:1")
	wantWithout(t, "a=x; b=x 1:1; c=x", "0 9", "")
	wantWithout(t, "a=x", "", "")
	if l := block.Without(nil, nil); len(l) != 0 {
		t.Errorf("of nothing there is %s", text(l))
	}
}

// permuted are all orders of a list.
func permuted(l []api.Gone) [][]api.Gone {
	if len(l) == 0 {
		return [][]api.Gone{nil}
	}
	var out [][]api.Gone
	for i := range l {
		for _, rest := range permuted(slices.Delete(slices.Clone(l), i, i+1)) {
			out = append(out, append(rest, l[i]))
		}
	}
	return out
}

// 10.2: what is gone is gone, in any order: at once, one by one, again, ahead of Merge or behind it.
func TestGoneInAnyOrder(t *testing.T) {
	r := drawn(4)
	for range 500 {
		l, more, gone := anySeries(r, 5), anySeries(r, 5), anyGones(r, 4)
		what := fmt.Sprint("Without of ", text(l), " and of ", gone)
		want := text(modelWithout(l, gone))
		for _, order := range permuted(gone) {
			wantText(t, what, text(block.Without(l, order)), want)
			left := l
			for _, g := range order {
				left = block.Without(left, []api.Gone{g})
			}
			wantText(t, "one by one, "+what, text(left), text(block.Without(l, order)))
			wantText(t, "again, "+what, text(block.Without(left, order)), want)
		}
		both := block.Without(block.Merge(l, more), gone)
		apart := block.Merge(block.Without(l, gone), block.Without(more, gone))
		wantText(t, "Merge, "+what, text(both), text(apart))
	}
}

// 10.2: the samples that Without takes out are those that a Head's Gone (9.1) takes out.
func TestWithoutAsHead(t *testing.T) {
	r := drawn(5)
	for range 2000 {
		l, gone := anySeries(r, 6), anyGones(r, 3)
		h := head.New(-api.MaxTime - 1)
		if err := h.Append(l); err != nil {
			t.Fatal(err)
		}
		for _, g := range gone {
			h.Gone(g)
		}
		wantText(t, fmt.Sprint("Without of ", text(l), " and of ", gone), text(block.Without(l, gone)), text(h.Series()))
	}
}

// 10.2: Merge of lists without series, of series of one alone, of the same series in both.
func TestMerge(t *testing.T) {
	for _, c := range []struct{ a, b, want string }{
		{"", "", ""},
		{"a=x 1:1", "", "a=x 1:1"}, {"", "a=x 1:1", "a=x 1:1"},
		{"a=x 1:1; b=x 2:2", "", "a=x 1:1; b=x 2:2"}, {"", "a=x 1:1; b=x 2:2", "a=x 1:1; b=x 2:2"},
		{"a=x 1:1", "b=x 2:2", "a=x 1:1; b=x 2:2"}, {"b=x 2:2", "a=x 1:1", "a=x 1:1; b=x 2:2"},
		{"a=x 1:1; c=x 3:3", "b=x 2:2", "a=x 1:1; b=x 2:2; c=x 3:3"}, {"b=x 2:2", "a=x 1:1; c=x 3:3", "a=x 1:1; b=x 2:2; c=x 3:3"},
		{"a=x 1:1; b=x 1:1", "c=x 1:1; d=x 1:1", "a=x 1:1; b=x 1:1; c=x 1:1; d=x 1:1"}, {"c=x 1:1; d=x 1:1", "a=x 1:1; b=x 1:1", "a=x 1:1; b=x 1:1; c=x 1:1; d=x 1:1"},
		{"a=x 1:1", "a=x b=x 1:1", "a=x 1:1; a=x b=x 1:1"}, {"a=x b=x 1:1", "a=x 1:1", "a=x 1:1; a=x b=x 1:1"}, {"a=xy 1:1", "a=x 1:1", "a=x 1:1; a=xy 1:1"}, {"a=x 1:1", "B=x 1:1", "B=x 1:1; a=x 1:1"},
		{"a=x 1:1 2:2", "a=x 3:3 4:4", "a=x 1:1 2:2 3:3 4:4"}, {"a=x 3:3 4:4", "a=x 1:1 2:2", "a=x 1:1 2:2 3:3 4:4"},
		{"a=x 1:1 3:3", "a=x 2:2 4:4", "a=x 1:1 2:2 3:3 4:4"}, {"a=x 2:2 4:4", "a=x 1:1 3:3", "a=x 1:1 2:2 3:3 4:4"}, {"a=x 1:1 9:9", "a=x 4:4 5:5", "a=x 1:1 4:4 5:5 9:9"},
		{"a=x 1:1", "a=x 1:7", "a=x 1:7"}, {"a=x 1:7", "a=x 1:1", "a=x 1:1"}, {"a=x 1:7", "a=x 1:7", "a=x 1:7"},
		{"a=x 1:1 2:2 3:3", "a=x 2:7", "a=x 1:1 2:7 3:3"}, {"a=x 2:7", "a=x 1:1 2:2 3:3", "a=x 1:1 2:2 3:3"}, {"a=x 1:1 2:2", "a=x 1:5 2:6 3:7", "a=x 1:5 2:6 3:7"},
		{"a=x 1:1; b=x 2:2; d=x 4:4", "b=x 1:5 2:6; c=x 3:3; d=x 5:5", "a=x 1:1; b=x 1:5 2:6; c=x 3:3; d=x 4:4 5:5"},
		{"a=x 1:1; b=x 2:2", "b=x 2:9; c=x 3:3; d=x 4:4", "a=x 1:1; b=x 2:9; c=x 3:3; d=x 4:4"},
		{"a=x; b=x 1:1", "b=x; c=x", "a=x; b=x 1:1; c=x"}, {"a=x", "a=x", "a=x"}, // all series of both: no sentence lets those go that have no samples
	} {
		wantText(t, fmt.Sprintf("Merge of %s and %s", c.a, c.b), text(block.Merge(series(c.a), series(c.b))), c.want)
		for _, itself := range []string{c.a, c.b, c.want} {
			l := series(itself)
			wantText(t, "Merge with itself of "+itself, text(block.Merge(l, l)), itself)
		}
	}
	ends := fmt.Sprintf("a=x %d:%d %d:%d", -api.MaxTime, int64(least), api.MaxTime, int64(greatest))
	wantText(t, "Merge at the ends of time", text(block.Merge(series(ends), series("a=x 0:0"))), strings.Replace(ends, " "+fmt.Sprint(api.MaxTime), " 0:0 "+fmt.Sprint(api.MaxTime), 1))
}

// 10.2: any Merges and Withouts, against the model; series stand in order, each once.
func TestAny(t *testing.T) {
	r := drawn(6)
	for range 3000 {
		a, b, gone := anySeries(r, 9), anySeries(r, 9), anyGones(r, 4)
		got := block.Merge(a, b)
		wantText(t, fmt.Sprintf("Merge of %s and %s", text(a), text(b)), text(got), text(modelMerge(a, b)))
		if !block.Right(block.Block{To: 99, Series: got}) {
			t.Errorf("Merge tells %s, which is not Right", text(got))
		}
		for _, x := range got {
			of := func(l []api.Series) (s []api.Sample) {
				for _, y := range l {
					if slices.Equal(x.Labels, y.Labels) {
						s = append(s, y.Samples...)
					}
				}
				return s
			}
			if !slices.Equal(x.Samples, chunk.Merge(of(a), of(b))) {
				t.Errorf("Merge of %s and %s has %v", text(a), text(b), x)
			}
		}
		left := block.Without(got, gone)
		wantText(t, fmt.Sprint("Without of ", text(got), " and of ", gone), text(left), text(modelWithout(got, gone)))
		if !block.Right(block.Block{To: 99, Series: left}) {
			t.Errorf("Without tells %s, which is not Right", text(left))
		}
	}
}

// 10.2: put together, it is the same, whatever is put together first.
func TestMergeOfThree(t *testing.T) {
	r := drawn(7)
	for range 1000 {
		a, b, c := anySeries(r, 5), anySeries(r, 5), anySeries(r, 5)
		wantText(t, fmt.Sprintf("Merge of %s, %s and %s", text(a), text(b), text(c)), text(block.Merge(a, block.Merge(b, c))), text(block.Merge(block.Merge(a, b), c)))
	}
}

// roomy are series whose lists, and what stands behind their lengths, are the caller's: each has one more behind it.
func roomy(l []api.Series) []api.Series {
	out := make([]api.Series, 0, len(l)+1)
	for _, x := range l {
		labels := append(append(make([]api.Label, 0, len(x.Labels)+9), x.Labels...), api.Label{Name: "behind", Value: "labels"})
		samples := append(append(make([]api.Sample, 0, len(x.Samples)+9), x.Samples...), api.Sample{Time: 77, Value: 77})
		out = append(out, api.Series{Labels: labels[:len(x.Labels)], Samples: samples[:len(x.Samples)]})
	}
	return append(out, series("behind=it 7:7")...)[:len(l)]
}

// laid is a list as it lies, with what stands behind the lengths, as far as its room goes.
func laid(l []api.Series) string {
	var out []api.Series
	for _, x := range l[:cap(l)] {
		out = append(out, api.Series{Labels: x.Labels[:cap(x.Labels)], Samples: x.Samples[:cap(x.Samples)]})
	}
	return text(out)
}

// spoil writes into all lists that came out, or were handed in, and behind their lengths.
func spoil(l []api.Series) {
	for i, x := range l[:cap(l)] {
		for j := range x.Labels[:cap(x.Labels)] {
			x.Labels[:cap(x.Labels)][j] = api.Label{Name: "spoilt", Value: "spoilt"}
		}
		for j := range x.Samples[:cap(x.Samples)] {
			x.Samples[:cap(x.Samples)][j] = api.Sample{Time: -99, Value: -99}
		}
		l[:cap(l)][i] = api.Series{}
	}
}

// wantApart: a list of an answer that is written into, also behind its length, leaves all others of it as they were.
func wantApart(t *testing.T, what string, l []api.Series) {
	t.Helper()
	for i := range l {
		others := func() string { return text(slices.Delete(slices.Clone(l), i, i+1)) }
		was, labels := others(), fmt.Sprint(l[i].Labels)
		spoil([]api.Series{{Samples: l[i].Samples}})
		wantText(t, what+": the labels beside samples that are spoilt", fmt.Sprint(l[i].Labels), labels)
		spoil([]api.Series{{Labels: l[i].Labels}})
		wantText(t, what+": the other series", others(), was)
	}
	spoil(l)
}

// P4: what is handed to Right and Write is neither written into nor kept; what Read tells is fresh memory.
func TestHandedIn(t *testing.T) {
	for _, right := range []string{"a=x 1:1 2:2; b=x 1:1", "a=x 1:1", "", "b=x 1:1; a=x 1:1", "a=x 9:1; b=x 10:1"} {
		b := block.Block{To: 9, Old: 1, Series: roomy(series(right))}
		was := laid(b.Series)
		block.Right(b)
		s, err := block.Write(b)
		wantText(t, "handed in", laid(b.Series), was)
		spoil(b.Series)
		again, other := block.Write(block.Block{To: 9, Old: 1, Series: series(right)})
		if s != again || api.Tell(err) != api.Tell(other) {
			t.Errorf("Write of %s: %x, %v, and again %x, %v", right, s, err, again, other)
		}
		if err != nil {
			continue
		}
		for range 3 {
			got, err := block.Read(s)
			wantErrno(t, right, err, api.OK)
			wantText(t, "read", blockText(got), "to 9 old 1: "+right)
			wantApart(t, "read", got.Series)
		}
	}
}

// given are calls of Without and Merge, each of two lists of series.
func given(a, b []api.Series, gone []api.Gone) map[string]func() []api.Series {
	return map[string]func() []api.Series{
		"Without":             func() []api.Series { return block.Without(a, gone) },
		"Without nothing":     func() []api.Series { return block.Without(a, nil) },
		"Merge":               func() []api.Series { return block.Merge(a, b) },
		"Merge, turned round": func() []api.Series { return block.Merge(b, a) },
		"Merge with none":     func() []api.Series { return block.Merge(a, nil) },
		"Merge of none":       func() []api.Series { return block.Merge(nil, a) },
		"Merge with itself":   func() []api.Series { return block.Merge(a, a) },
	}
}

// P4: nothing that is handed to Without and Merge is written into or kept, and what comes out is fresh memory, no two lists of it sharing any.
func TestFresh(t *testing.T) {
	const first, second = "a=x 1:1 2:2 5:5; b=x 1:1; c=x 5:5 6:6", "a=x 2:7 3:3; bb=x 1:1; c=x 5:7; d=x 6:6"
	for what := range given(nil, nil, nil) {
		a, b := roomy(series(first)), roomy(series(second))
		room := append(gones("a=x 2 2; none= 6 6"), gones("7 7")...)
		gone := room[:2]
		wasA, wasB, wasGone := laid(a), laid(b), fmt.Sprint(room)
		call := given(a, b, gone)[what]
		want := text(given(series(first), series(second), gones("a=x 2 2; 6 6"))[what]())
		for range 2 {
			got := call()
			wantText(t, what, text(got), want)
			wantApart(t, what, got)
			wantText(t, what+": handed in", laid(a), wasA)
			wantText(t, what+": handed in as the second", laid(b), wasB)
			wantText(t, what+": handed in as gone", fmt.Sprint(room), wasGone)
		}
		got := call()
		spoil(a)
		spoil(b)
		room[0].Match[0] = api.Matcher{}
		clear(room)
		wantText(t, what+", when what was handed in changes", text(got), want)
	}
}

// P1: Without of matchers that may not be asked ends, and takes out what label.All says.
func TestGoneWrong(t *testing.T) {
	l := series("a=x 1:1; b=x 1:1")
	for _, m := range []api.Matcher{{}, {Name: "a", Op: -1, Value: "x"}, {Name: "a", Op: 4, Value: "x"}, {Name: "a", Op: math.MaxInt}, {Name: "\xff", Op: api.IsNot, Value: "\xff"}, {Name: "", Op: api.Begins}, {Name: "a", Value: strings.Repeat("x", 99)}} {
		gone := []api.Gone{{Match: []api.Matcher{m}, From: 0, To: 9}}
		wantText(t, fmt.Sprint("Without of ", gone), text(block.Without(l, gone)), text(modelWithout(l, gone)))
	}
}

// P1: Without and Merge of series that don't rise, or may not be, end, and leave them as they are.
func TestNotRising(t *testing.T) {
	lists := [][]api.Series{nil, {{}}, {{}, {}}, series("b=x 2:2; a=x 1:1; b=x 1:1"), series("a=x 9:1 3:2 3:3; a=x 1:1"), {{Labels: wrongLabels()[0]}, {Samples: even(-5, 9)}}}
	for _, labels := range wrongLabels() {
		lists = append(lists, []api.Series{{Labels: labels, Samples: even(0, 3)}})
	}
	for _, samples := range wrongSamples() {
		lists = append(lists, []api.Series{{Labels: series("a=x")[0].Labels, Samples: samples}})
	}
	for _, a := range lists {
		for _, b := range lists {
			wasA, wasB := text(a), text(b)
			block.Merge(a, b)
			block.Without(a, []api.Gone{{From: 0, To: 2}, {From: greatest, To: least}})
			wantText(t, "handed in", text(a)+"|"+text(b), wasA+"|"+wasB)
		}
	}
}

// P1: a count of series that is greater than what can stand behind it ends soon, and takes no memory for it.
func TestGreatCountEnds(t *testing.T) {
	one := blockBytes(upTo(9, "a=x 1:1"))[24:]
	for _, n := range []int64{-1, least, 2, 1 << 20, 1 << 31, 1 << 40, greatest} {
		for _, behind := range []string{"", one, strings.Repeat("\x00", 50000)} {
			wantForm(t, fmt.Sprint("a count of ", n), number(9)+number(-1)+number(n)+behind)
		}
	}
	wantRight(t, block.Block{To: api.MaxTime, Series: several(3000)})
}
