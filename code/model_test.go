package code_test

// What chapter 8 says, once more: numbers without a bound, and a reader that keeps all bytes, and where it stands.

import (
	"encoding/hex"
	"errors"
	"fmt"
	"math/big"
	"math/rand/v2"
	"slices"
	"strings"
	"testing"

	"raingauge/api"
	"raingauge/chunk"
	"raingauge/code"
	"raingauge/label"
)

// reading is what a Reader and its model have.
type reading interface {
	Done() bool
	Bad() bool
	Number() int64
	Size(most int) int
	Text() string
	Labels() []api.Label
	Series() []api.Series
}

type model struct {
	all string
	at  int
	bad bool
}

func (m *model) Bad() bool  { return m.bad }
func (m *model) Done() bool { return !m.bad && m.at == len(m.all) }

// whole reads a number, which is 0 if it is Bad.
func (m *model) whole() *big.Int {
	n := new(big.Int)
	if m.bad || len(m.all)-m.at < 8 {
		m.bad = true
		return n
	}
	n.SetBytes([]byte(m.all[m.at : m.at+8]))
	m.at += 8
	if n.Bit(63) == 1 {
		n.Sub(n, new(big.Int).Lsh(big.NewInt(1), 64))
	}
	return n
}

func (m *model) Number() int64 { return m.whole().Int64() }

func (m *model) Size(most int) int {
	n := m.whole()
	if n.Sign() < 0 || n.Cmp(big.NewInt(int64(most))) > 0 {
		m.bad = true
	}
	if m.bad {
		return 0
	}
	return int(n.Int64())
}

func (m *model) Text() string {
	n := m.whole()
	if n.Sign() < 0 || n.Cmp(big.NewInt(int64(len(m.all)-m.at))) > 0 {
		m.bad = true
	}
	if m.bad {
		return ""
	}
	from := m.at
	m.at += int(n.Int64())
	return m.all[from:m.at]
}

func (m *model) Labels() []api.Label {
	l := []api.Label{}
	count := m.whole()
	for i := int64(0); !m.bad && count.Cmp(big.NewInt(i)) > 0; i++ {
		l = append(l, api.Label{})
		l[i].Name = m.Text()
		l[i].Value = m.Text()
	}
	m.bad = m.bad || count.Sign() < 0 || len(l) > 8 || !label.Right(l)
	if m.bad {
		return nil
	}
	return l
}

func (m *model) Series() []api.Series {
	l := []api.Series{}
	count := m.whole()
	m.bad = m.bad || count.Sign() < 0
	for i := int64(0); !m.bad && count.Cmp(big.NewInt(i)) > 0; i++ {
		one := api.Series{Labels: m.Labels()}
		samples, err := chunk.Read(m.Text())
		m.bad = m.bad || err != nil
		one.Samples = samples
		l = append(l, one)
	}
	if m.bad {
		return nil
	}
	return l
}

// number is a number's eight bytes, the greatest first.
func number(n int64) string {
	b := make([]byte, 8)
	u := new(big.Int).Add(big.NewInt(n), new(big.Int).Lsh(big.NewInt(1), 64))
	u.SetBit(u, 64, 0)
	return string(u.FillBytes(b))
}

func text(s string) string { return number(int64(len(s))) + s }

func labelled(l []api.Label) string {
	s := number(int64(len(l)))
	for _, one := range l {
		s += text(one.Name) + text(one.Value)
	}
	return s
}

// written is what Series is to tell of series that may be.
func written(t *testing.T, l []api.Series) string {
	t.Helper()
	s := number(int64(len(l)))
	for _, one := range l {
		samples, err := chunk.Write(one.Samples)
		if err != nil || !label.Right(one.Labels) {
			t.Fatalf("%v may not be: %v", one, err)
		}
		s += labelled(one.Labels) + text(samples)
	}
	return s
}

// bytesOf is bytes from hexadecimal digits; blanks don't count.
func bytesOf(digits string) string {
	b, err := hex.DecodeString(strings.ReplaceAll(digits, " ", ""))
	if err != nil {
		panic(err)
	}
	return string(b)
}

// labels are labels from words: name=value.
func labels(words string) []api.Label {
	var l []api.Label
	for _, word := range strings.Fields(words) {
		name, value, _ := strings.Cut(word, "=")
		l = append(l, api.Label{Name: name, Value: value})
	}
	return l
}

// at is samples, from a time and a value by turns.
func at(n ...int64) []api.Sample {
	var l []api.Sample
	for i := 0; i < len(n); i += 2 {
		l = append(l, api.Sample{Time: n[i], Value: n[i+1]})
	}
	return l
}

// even is samples at even steps, with values that are their numbers.
func even(from int64, count int) []api.Sample {
	var l []api.Sample
	for i := range int64(count) {
		l = append(l, api.Sample{Time: from + i, Value: i})
	}
	return l
}

func one(words string, n ...int64) api.Series {
	return api.Series{Labels: labels(words), Samples: at(n...)}
}

// drawn makes numbers that look drawn, the same each time.
func drawn(seed uint64) *rand.Rand { return rand.New(rand.NewPCG(seed, 8)) }

// some are series that may be, drawn.
func some(r *rand.Rand, most int) []api.Series {
	var l []api.Series
	for range r.IntN(most + 1) {
		var x api.Series
		for _, name := range []string{"A", "_", "at", "job"} {
			if r.IntN(2) == 0 || name == "job" && x.Labels == nil {
				x.Labels = append(x.Labels, api.Label{Name: name, Value: string(rune('w' + r.IntN(4)))})
			}
		}
		time := r.Int64N(100) - 50
		for range r.IntN(4) {
			x.Samples = append(x.Samples, api.Sample{Time: time, Value: int64(r.Uint64()) >> r.IntN(64)})
			time += 1 + r.Int64N(9)
		}
		l = append(l, x)
	}
	return l
}

func sameSeries(a, b []api.Series) bool {
	return slices.EqualFunc(a, b, func(x, y api.Series) bool {
		return slices.Equal(x.Labels, y.Labels) && slices.Equal(x.Samples, y.Samples)
	})
}

// copied is series that share nothing with those.
func copied(l []api.Series) []api.Series {
	var out []api.Series
	for _, x := range l {
		out = append(out, api.Series{Labels: slices.Clone(x.Labels), Samples: slices.Clone(x.Samples)})
	}
	return out
}

// wantErrno: it is that Errno, and no At is in it.
func wantErrno(t *testing.T, what string, err error, want api.Errno) {
	t.Helper()
	var place *api.At
	if api.Tell(err) != want || errors.As(err, &place) {
		t.Errorf("%.300s: error %v, not plainly %v", what, err, want)
	}
}

// wantAt: it is ErrArg, an At at that place, and no text is beside it.
func wantAt(t *testing.T, l []api.Series, place int) {
	t.Helper()
	s, err := code.Series(l)
	var a *api.At
	if s != "" || !errors.As(err, &a) || a.Err != api.ErrArg || a.Place != place || api.Tell(err) != api.ErrArg {
		t.Errorf("Series(%s) is %q, %#v, not ErrArg at %d", short(l), s, err, place)
	}
}

// wantBytes: those.
func wantBytes(t *testing.T, what, got, want string) {
	t.Helper()
	if got != want {
		t.Errorf("%.200s: %.400x, not %.400x", what, got, want)
	}
}

// wantState: whether it is Bad, and Done.
func wantState(t *testing.T, what string, r reading, bad, done bool) {
	t.Helper()
	if r.Bad() != bad || r.Done() != done {
		t.Errorf("%.200s: Bad %v, Done %v, not %v, %v", what, r.Bad(), r.Done(), bad, done)
	}
}

// short is the beginning of a thing, for a message.
func short(l any) string { return fmt.Sprintf("%.200s", fmt.Sprint(l)) }
