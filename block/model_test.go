package block_test

// What chapter 10 says, once more: each sample lies in a list by itself, with its series' labels as a text; bytes are put together one by one, whether the block may be or not.

import (
	"cmp"
	"encoding/hex"
	"errors"
	"fmt"
	"math/big"
	"math/rand/v2"
	"slices"
	"strconv"
	"strings"
	"testing"

	"raingauge/api"
	"raingauge/bits"
	"raingauge/block"
	"raingauge/code"
	"raingauge/label"
)

type modelSample struct {
	key string
	api.Sample
}

// key is labels as a text that stands in order where they do: no byte of them is below 32, so that a beginning stands first.
func key(l []api.Label) string {
	var b strings.Builder
	for _, one := range l {
		b.WriteString(one.Name + "\x00" + one.Value + "\x00")
	}
	return b.String()
}

func unkey(s string) (l []api.Label) {
	parts := strings.Split(s, "\x00")
	for i := 0; i+1 < len(parts); i += 2 {
		l = append(l, api.Label{Name: parts[i], Value: parts[i+1]})
	}
	return l
}

// flat are all samples of series.
func flat(l []api.Series) (out []modelSample) {
	for _, x := range l {
		for _, s := range x.Samples {
			out = append(out, modelSample{key(x.Labels), s})
		}
	}
	return out
}

// grouped are samples as series, in order.
func grouped(l []modelSample) (out []api.Series) {
	slices.SortFunc(l, func(a, b modelSample) int { return cmp.Or(cmp.Compare(a.key, b.key), cmp.Compare(a.Time, b.Time)) })
	for i, s := range l {
		if i == 0 || l[i-1].key != s.key {
			out = append(out, api.Series{Labels: unkey(s.key)})
		}
		out[len(out)-1].Samples = append(out[len(out)-1].Samples, s.Sample)
	}
	return out
}

// modelRight looks at each two series, and at each sample.
func modelRight(b block.Block) bool {
	if b.To < -1<<40 || 1<<40 < b.To || b.Old <= -2 {
		return false
	}
	for i, x := range b.Series {
		if !label.Right(x.Labels) || len(x.Samples) < 1 || len(x.Samples) > 2000 {
			return false
		}
		for j, s := range x.Samples {
			if s.Time > b.To || s.Time < -1<<40 || j > 0 && x.Samples[j-1].Time >= s.Time {
				return false
			}
		}
		for _, y := range b.Series[:i] {
			if key(y.Labels) >= key(x.Labels) {
				return false
			}
		}
	}
	return true
}

// modelWithout takes samples out one by one.
func modelWithout(l []api.Series, gone []api.Gone) []api.Series {
	all := flat(l)
	for _, g := range gone {
		for i := len(all) - 1; i >= 0; i-- {
			if s := all[i]; label.All(unkey(s.key), g.Match) && !(s.Time < g.From) && !(s.Time > g.To) {
				all = slices.Delete(all, i, i+1)
			}
		}
	}
	return grouped(all)
}

// modelMerge lets the samples of the second ones come behind the first ones', each in the place of one of its time. (Of series that have samples.)
func modelMerge(a, b []api.Series) []api.Series {
	all := flat(a)
	for _, s := range flat(b) {
		all = slices.DeleteFunc(all, func(x modelSample) bool { return x.key == s.key && x.Time == s.Time })
		all = append(all, s)
	}
	return grouped(all)
}

// modelRead is the block of bytes, if it may be.
func modelRead(s string) (block.Block, bool) {
	if len(s) < 16 {
		return block.Block{}, false
	}
	l, err := code.ReadSeries(s[16:])
	b := block.Block{To: unnumber(s[:8]), Old: unnumber(s[8:16]), Series: l}
	return b, err == nil && modelRight(b)
}

// number is a number's eight bytes, the greatest first.
func number(n int64) string {
	b := make([]byte, 8)
	u := new(big.Int).Add(big.NewInt(n), new(big.Int).Lsh(big.NewInt(1), 64))
	u.SetBit(u, 64, 0)
	return string(u.FillBytes(b))
}

func unnumber(s string) int64 {
	n := new(big.Int).SetBytes([]byte(s))
	if n.Bit(63) == 1 {
		n.Sub(n, new(big.Int).Lsh(big.NewInt(1), 64))
	}
	return n.Int64()
}

func textBytes(s string) string { return number(int64(len(s))) + s }

// samplesBytes are samples in few bits, whether they may be or not.
func samplesBytes(l []api.Sample) string {
	var w bits.Writer
	bits.Put(&w, int64(len(l)))
	for i, s := range l {
		switch i {
		case 0:
			bits.Put(&w, s.Time)
			bits.Put(&w, s.Value)
			continue
		case 1:
			bits.Put(&w, s.Time-l[0].Time)
		default:
			bits.Put(&w, s.Time-2*l[i-1].Time+l[i-2].Time)
		}
		bits.Put(&w, s.Value-l[i-1].Value)
	}
	return w.Bytes()
}

// blockBytes are a block's bytes, whether it may be or not.
func blockBytes(b block.Block) string {
	s := number(b.To) + number(b.Old) + number(int64(len(b.Series)))
	for _, x := range b.Series {
		s += number(int64(len(x.Labels)))
		for _, one := range x.Labels {
			s += textBytes(one.Name) + textBytes(one.Value)
		}
		s += textBytes(samplesBytes(x.Samples))
	}
	return s
}

// bytesOf is bytes from hexadecimal digits; blanks don't count.
func bytesOf(digits string) string {
	b, err := hex.DecodeString(strings.ReplaceAll(digits, " ", ""))
	if err != nil {
		panic(err)
	}
	return string(b)
}

// series are those of a text such as "a=x b=y 1:5 2:6; job=z 3:1": words with = are labels, words with : a time and a value; what stands behind ; is another one.
func series(text string) (l []api.Series) {
	if strings.TrimSpace(text) == "" {
		return nil
	}
	for part := range strings.SplitSeq(text, ";") {
		var x api.Series
		for _, word := range strings.Fields(part) {
			if name, value, ok := strings.Cut(word, "="); ok {
				x.Labels = append(x.Labels, api.Label{Name: name, Value: value})
				continue
			}
			time, value, _ := strings.Cut(word, ":")
			x.Samples = append(x.Samples, api.Sample{Time: whole(time), Value: whole(value)})
		}
		l = append(l, x)
	}
	return l
}

func whole(s string) int64 {
	n, err := strconv.ParseInt(s, 10, 64)
	if err != nil {
		panic(err)
	}
	return n
}

// text is series as series reads them.
func text(l []api.Series) string {
	var parts []string
	for _, x := range l {
		var words []string
		for _, one := range x.Labels {
			words = append(words, one.Name+"="+one.Value)
		}
		for _, s := range x.Samples {
			words = append(words, fmt.Sprintf("%d:%d", s.Time, s.Value))
		}
		parts = append(parts, strings.Join(words, " "))
	}
	return strings.Join(parts, "; ")
}

// blockText is a block as a text.
func blockText(b block.Block) string {
	return fmt.Sprintf("to %d old %d: %s", b.To, b.Old, text(b.Series))
}

// upTo is a block of a time and of a text's series, in the place of no others.
func upTo(to int64, text string) block.Block {
	return block.Block{To: to, Old: -1, Series: series(text)}
}

// ops are the marks that matchers of a text have, in the order of their numbers.
var ops = []string{"=", "!=", "^", "!^"}

// gones are those of a text such as "a=x b!^y 3 9; 5 6": matchers, each a name, a mark and a value, and at last from which time to which; what stands behind ; is another one.
func gones(text string) (l []api.Gone) {
	if strings.TrimSpace(text) == "" {
		return nil
	}
	for part := range strings.SplitSeq(text, ";") {
		var g api.Gone
		words := strings.Fields(part)
		for _, word := range words[:len(words)-2] {
			from := strings.IndexAny(word, "!=^")
			to := from + strings.IndexAny(word[from:], "=^") + 1
			g.Match = append(g.Match, api.Matcher{Name: word[:from], Op: slices.Index(ops, word[from:to]), Value: word[to:]})
		}
		g.From, g.To = whole(words[len(words)-2]), whole(words[len(words)-1])
		l = append(l, g)
	}
	return l
}

// wantText holds a text against what it is to be.
func wantText(t *testing.T, what, got, want string) {
	t.Helper()
	if got != want {
		t.Errorf("%.300s: %.600s, not %.600s", what, got, want)
	}
}

// wantErrno: it is that Errno, and no At is in it.
func wantErrno(t *testing.T, what string, err error, want api.Errno) {
	t.Helper()
	var place *api.At
	if api.Tell(err) != want || errors.As(err, &place) {
		t.Errorf("%.300s: error %#v, not plainly %v", what, err, want)
	}
}

// wantWrong: the block is not Right; Write of it is ErrArg, and tells no text.
func wantWrong(t *testing.T, b block.Block) {
	t.Helper()
	what := blockText(b)
	if block.Right(b) {
		t.Errorf("%.300s is Right", what)
	}
	s, err := block.Write(b)
	wantErrno(t, "Write of "+what, err, api.ErrArg)
	if s != "" {
		t.Errorf("%.300s: beside ErrArg there is %.200x", what, s)
	}
}

// wantForm: Read of these bytes is ErrForm, beside the zero Block.
func wantForm(t *testing.T, what, s string) {
	t.Helper()
	b, err := block.Read(s)
	wantErrno(t, "Read of "+what, err, api.ErrForm)
	if b.To != 0 || b.Old != 0 || b.Series != nil {
		t.Errorf("%.300s: beside ErrForm there is %.300s", what, blockText(b))
	}
}

// wantRight: the block is Right, Write of it tells those bytes, and Read of them tells it.
func wantRight(t *testing.T, b block.Block) {
	t.Helper()
	what := blockText(b)
	if !block.Right(b) {
		t.Errorf("%.300s is not Right", what)
	}
	s, err := block.Write(b)
	wantErrno(t, "Write of "+what, err, api.OK)
	wantText(t, "Write of "+what, hex.EncodeToString([]byte(s)), hex.EncodeToString([]byte(blockBytes(b))))
	got, err := block.Read(s)
	wantErrno(t, "Read of what Write told of "+what, err, api.OK)
	wantText(t, "Read of what Write told of "+what, blockText(got), what)
}

// check holds a block against the model: Right, Write, and Read of its bytes; whether it is Right.
func check(t *testing.T, b block.Block) bool {
	t.Helper()
	if modelRight(b) {
		wantRight(t, b)
		return true
	}
	wantWrong(t, b)
	wantForm(t, "the bytes of "+blockText(b), blockBytes(b))
	return false
}

// checkRead: Read tells just what the model does, and what it reads is written just so; whether it was read.
func checkRead(t *testing.T, s string) bool {
	t.Helper()
	what := fmt.Sprintf("%x", s)
	want, ok := modelRead(s)
	if !ok {
		wantForm(t, what, s)
		return false
	}
	got, err := block.Read(s)
	wantErrno(t, "Read of "+what, err, api.OK)
	wantText(t, "Read of "+what, blockText(got), blockText(want))
	again, err := block.Write(got)
	if again != s || err != nil {
		t.Errorf("%.300s: Write of what Read tells is %.300x, %v", what, again, err)
	}
	return true
}

// drawn makes numbers that look drawn, the same each time.
func drawn(seed uint64) *rand.Rand { return rand.New(rand.NewPCG(seed, 10)) }

// anyLabels are labels that may be a series', of few names and values, so that many are alike.
func anyLabels(r *rand.Rand) (l []api.Label) {
	for _, name := range []string{"A", "a", "ab", "b"} {
		if r.IntN(2) == 0 {
			l = append(l, api.Label{Name: name, Value: []string{"x", "xy", "y"}[r.IntN(3)]})
		}
	}
	if l == nil {
		return []api.Label{{Name: "a", Value: "x"}}
	}
	return l
}

// anySeries are series that rise, none twice, each with samples near 0.
func anySeries(r *rand.Rand, most int) (l []api.Series) {
	for range r.IntN(most + 1) {
		x := api.Series{Labels: anyLabels(r)}
		time := r.Int64N(20) - 10
		for range 1 + r.IntN(5) {
			x.Samples = append(x.Samples, api.Sample{Time: time, Value: int64(r.Uint64()) >> r.IntN(64)})
			time += 1 + r.Int64N(4)
		}
		l = append(l, x)
	}
	slices.SortFunc(l, func(a, b api.Series) int { return cmp.Compare(key(a.Labels), key(b.Labels)) })
	return slices.CompactFunc(l, func(a, b api.Series) bool { return key(a.Labels) == key(b.Labels) })
}

// anyGones are what is taken out, near 0.
func anyGones(r *rand.Rand, most int) (l []api.Gone) {
	for range r.IntN(most + 1) {
		var g api.Gone
		for range r.IntN(3) {
			g.Match = append(g.Match, api.Matcher{Name: []string{"A", "a", "ab", "b", "none"}[r.IntN(5)], Op: r.IntN(4), Value: []string{"", "x", "xy", "y"}[r.IntN(4)]})
		}
		g.From = r.Int64N(40) - 20
		g.To = g.From + r.Int64N(14) - 3
		l = append(l, g)
	}
	return l
}
