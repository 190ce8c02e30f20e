package store_test

// What chapter 13 says, once more: all samples lie in one list, each with its series' labels as a text, and the number of the block that it lies in. Behind a call that told ErrDevice it is known what there may be; what a Store tells that is opened anew says which of these it is.

import (
	"cmp"
	"errors"
	"fmt"
	"math"
	"math/rand/v2"
	"slices"
	"strconv"
	"strings"
	"testing"

	"raingauge/api"
	"raingauge/chunk"
	"raingauge/disk"
	"raingauge/label"
	"raingauge/store"
)

const (
	least    = math.MinInt64
	greatest = math.MaxInt64
	inHead   = -1 // in the place of a block's number
)

type modelSample struct {
	key   string
	block int64
	api.Sample
}

type modelBlock struct{ number, to int64 }

type model struct {
	mark, next int64
	deletes    int // since the last Compact
	blocks     []modelBlock
	all        []modelSample
}

func newModel() model { return model{mark: -1<<40 - 1} }

func (m model) clone() model {
	m.blocks, m.all = slices.Clone(m.blocks), slices.Clone(m.all)
	return m
}

// key is labels as a text that stands in order where they do: no byte of them is below 32, so that a beginning stands first.
func key(l []api.Label) string {
	var b strings.Builder
	for _, one := range l {
		b.WriteString(one.Name + "\x00" + one.Value + "\x00")
	}
	return b.String()
}

func unkey(s string) (l []api.Label) {
	parts := strings.Split(s, "\x00")
	for i := 0; i+1 < len(parts); i += 2 {
		l = append(l, api.Label{Name: parts[i], Value: parts[i+1]})
	}
	return l
}

// op is a call that changes something.
type op struct {
	word   string
	series []api.Series
	time   int64
	gone   api.Gone
}

// does is a call as a text: "append a=x 1:5 2:6; b=y 3:1", "cut 5", "delete a=x b!^y 3 9", "compact", "retain 5".
func does(line string) op {
	word, rest, _ := strings.Cut(line, " ")
	o := op{word: word}
	switch word {
	case "append":
		o.series = series(rest)
	case "cut", "retain":
		o.time = number(rest)
	case "delete":
		o.gone = gone(rest)
	}
	return o
}

func (o op) String() string {
	switch o.word {
	case "append":
		return "append " + text(o.series)
	case "cut", "retain":
		return fmt.Sprint(o.word, " ", o.time)
	case "delete":
		return fmt.Sprint("delete ", o.gone)
	}
	return o.word
}

// do does it, and tells its answer: how many blocks went, its error.
func (o op) do(s *store.Store) string {
	switch o.word {
	case "append":
		return told(s.Append(o.series))
	case "cut":
		return told(s.Cut(o.time))
	case "delete":
		return told(s.Delete(o.gone))
	case "compact":
		return told(s.Compact())
	case "retain":
		n, err := s.Retain(o.time)
		return strings.TrimSpace(fmt.Sprint(n, " ", told(err)))
	}
	panic("there is no " + o.word)
}

// device is what an op tells if the power goes off, state if it is Down.
func (o op) device() string { return o.error(api.ErrDevice) }
func (o op) state() string  { return o.error(api.ErrState) }
func (o op) error(e api.Errno) string {
	if o.word == "retain" {
		return "0 " + told(e)
	}
	return told(e)
}

// did is what there is behind an op, and its answer, if there is power.
func (m model) did(o op) (model, string) {
	next := m.clone()
	var e error
	switch o.word {
	case "append":
		e = next.come(o.series)
	case "cut":
		e = next.cut(o.time)
	case "delete":
		e = next.delete(o.gone)
	case "compact":
		e = next.compact()
	case "retain":
		count := len(m.blocks)
		next.retain(o.time)
		return next, strconv.Itoa(count - len(next.blocks))
	}
	if e != nil {
		return m, told(e)
	}
	return next, ""
}

// perhaps are all that there may be if the power goes off within an op that tells no error else.
func (m model) perhaps(o op) []model {
	after, answer := m.did(o)
	if strings.HasPrefix(answer, "error") {
		return nil
	}
	l := []model{m, after}
	if o.word == "retain" { // some blocks may have gone, whichever
		l = nil
		for _, some := range subsets(m.blocks) {
			x := m.clone()
			x.drop(func(b modelBlock) bool { return b.to <= o.time && slices.Contains(some, b) })
			l = append(l, x)
		}
	}
	return l
}

func subsets[T any](l []T) [][]T {
	if len(l) == 0 {
		return [][]T{nil}
	}
	var out [][]T
	for _, x := range subsets(l[1:]) {
		out = append(out, x, append([]T{l[0]}, x...))
	}
	return out
}

func at(e api.Errno, place int) error { return &api.At{Err: e, Place: place} }

// count is how many samples of a series lie where it is asked for.
func (m *model) count(key string, in func(block int64) bool) (n int) {
	for _, s := range m.all {
		if s.key == key && in(s.block) {
			n++
		}
	}
	return n
}

func headAlone(block int64) bool { return block == inHead }
func anywhere(int64) bool        { return true }

// come is Append: wholly as the Head asks (9.1), and then, when all has come, with what is put away.
func (m *model) come(l []api.Series) error {
	total := 0
	for _, x := range l {
		total += len(x.Samples)
	}
	if total > 40 {
		return api.ErrLimit
	}
	for i, x := range l {
		if e := m.wrong(x); e != api.OK {
			return at(e, i)
		}
		for _, s := range x.Samples {
			m.all = append(m.all, modelSample{key(x.Labels), inHead, s})
		}
	}
	for i, x := range l {
		if m.count(key(x.Labels), anywhere) > 2000 {
			return at(api.ErrFull, i)
		}
	}
	return nil
}

// wrong is why one series may not come.
func (m *model) wrong(x api.Series) api.Errno {
	if !label.Right(x.Labels) || !chunk.Right(x.Samples) || len(x.Samples) == 0 {
		return api.ErrArg
	}
	time := x.Samples[0].Time
	if !(time > m.mark) {
		return api.ErrOrder
	}
	keys := map[string]bool{}
	last := int64(least)
	for _, s := range m.all {
		if s.block == inHead {
			keys[s.key] = true
			if s.key == key(x.Labels) {
				last = max(last, s.Time)
			}
		}
	}
	switch {
	case !keys[key(x.Labels)] && len(keys) >= 60:
		return api.ErrFull
	case time <= last:
		return api.ErrOrder
	case m.count(key(x.Labels), headAlone)+len(x.Samples) > 2000:
		return api.ErrFull
	}
	return api.OK
}

func (m *model) cut(t int64) error {
	if t < -1<<40 || 1<<40 < t {
		return api.ErrRange
	}
	if len(m.blocks) >= 30 {
		return api.ErrFull
	}
	m.mark = max(m.mark, t)
	any := false
	for i, s := range m.all {
		if s.block == inHead && s.Time <= t {
			m.all[i].block = m.next
			any = true
		}
	}
	if any {
		m.blocks = append(m.blocks, modelBlock{m.next, m.mark})
		m.next++
	}
	return nil
}

func (m *model) delete(g api.Gone) error {
	if !label.Asked(g.Match) {
		return api.ErrArg
	}
	if m.deletes >= 200 {
		return api.ErrFull
	}
	m.deletes++
	m.all = slices.DeleteFunc(m.all, func(s modelSample) bool {
		return label.All(unkey(s.key), g.Match) && !(s.Time < g.From) && !(s.Time > g.To)
	})
	return nil
}

func (m *model) compact() error {
	if len(m.blocks) == 0 {
		return api.ErrMissing
	}
	whole := modelBlock{m.next, least}
	for _, b := range m.blocks {
		whole.to = max(whole.to, b.to)
	}
	for i, s := range m.all {
		if s.block != inHead {
			m.all[i].block = m.next
		}
	}
	m.blocks, m.next, m.deletes = []modelBlock{whole}, m.next+1, 0
	return nil
}

func (m *model) retain(t int64) { m.drop(func(b modelBlock) bool { return b.to <= t }) }

// drop lets blocks go.
func (m *model) drop(goes func(b modelBlock) bool) {
	m.all = slices.DeleteFunc(m.all, func(s modelSample) bool {
		return slices.ContainsFunc(m.blocks, func(b modelBlock) bool { return b.number == s.block && goes(b) })
	})
	m.blocks = slices.DeleteFunc(m.blocks, goes)
}

// selected are the samples that are asked for, as series, in order.
func (m model) selected(match []api.Matcher, from, to int64) (out []api.Series) {
	l := slices.Clone(m.all)
	slices.SortFunc(l, func(a, b modelSample) int { return cmp.Or(cmp.Compare(a.key, b.key), cmp.Compare(a.Time, b.Time)) })
	last := ""
	for _, s := range l {
		if s.Time < from || s.Time > to || !label.All(unkey(s.key), match) {
			continue
		}
		if s.key != last {
			out, last = append(out, api.Series{Labels: unkey(s.key)}), s.key
		}
		out[len(out)-1].Samples = append(out[len(out)-1].Samples, s.Sample)
	}
	return out
}

// values are what series say by a name.
func (m model) values(name string) (out []string) {
	for _, s := range m.all {
		for _, one := range unkey(s.key) {
			if one.Name == name && !slices.Contains(out, one.Value) {
				out = append(out, one.Value)
			}
		}
	}
	slices.Sort(out)
	return out
}

// names are asked for what they say.
var names = []string{"A", "a", "ab", "b", "none"}

// look is what there is to be seen.
func (m model) look() string {
	var numbers, to []int64
	for _, b := range m.blocks {
		numbers, to = append(numbers, b.number), append(to, b.to)
	}
	said := fmt.Sprintf("%d %d to %d: %s", m.mark, numbers, to, text(m.selected(nil, least, greatest)))
	for _, name := range names {
		said += fmt.Sprintf(" %q", m.values(name))
	}
	return said
}

// look is what a Store tells.
func look(s *store.Store) string {
	numbers, to := s.Blocks()
	l, err := s.Select(nil, least, greatest)
	said := fmt.Sprintf("%d %d to %d: %s%s", s.Mark(), numbers, to, text(l), told(err))
	for _, name := range names {
		values, err := s.Values(name)
		said += fmt.Sprintf(" %q%s", values, told(err))
	}
	return said
}

// run is a disk, the Store over it, and what there may be.
type run struct {
	d     *disk.Disk
	s     *store.Store
	known []model
	what  []string
}

// began is a Store over a new disk, behind some calls, none of which tells an error.
func began(t *testing.T, lines ...string) *run {
	t.Helper()
	r := &run{d: &disk.Disk{}, known: []model{newModel()}}
	r.open(t)
	for _, line := range lines {
		if answer := r.do(t, does(line)); strings.HasPrefix(answer, "error") {
			t.Fatalf("%s: %s", line, answer)
		}
	}
	return r
}

func (r *run) say(l ...any) { r.what = append(r.what, fmt.Sprint(l...)) }

func (r *run) want(t *testing.T, right bool, l ...any) {
	t.Helper()
	if !right {
		t.Fatalf("%.2000s: %.2000s", strings.Join(r.what, " / "), fmt.Sprint(l...))
	}
}

// found leaves, of what there may be, what the Store tells.
func (r *run) found(t *testing.T) {
	t.Helper()
	got := look(r.s)
	r.known = slices.DeleteFunc(r.known, func(m model) bool { return m.look() != got })
	r.want(t, len(r.known) > 0, "there is ", got)
}

// do does an op, and holds what it answers, and what the Store tells then, against what it is to be.
func (r *run) do(t *testing.T, o op) string {
	t.Helper()
	r.say(o)
	was, down, power := look(r.s), r.s.Down(), r.d.On()
	answer := o.do(r.s)
	r.say(answer)
	var next []model
	for _, m := range r.known {
		after, want := m.did(o)
		if answer == want && (power || strings.HasPrefix(want, "error")) {
			next = append(next, after)
		}
		if answer == o.device() && !r.d.On() {
			next = append(next, m.perhaps(o)...)
		}
	}
	switch {
	case down:
		r.want(t, answer == o.state() && r.s.Down() && look(r.s) == was, "Down, it is ", look(r.s))
		return answer
	case answer == o.device():
		r.want(t, r.s.Down() && look(r.s) == was, "behind ErrDevice it is ", look(r.s))
		r.want(t, len(next) > 0, "ErrDevice")
		r.known = next
		return answer
	}
	r.want(t, len(next) > 0 && !r.s.Down(), "it is Down: ", r.s.Down())
	r.known = next
	r.found(t)
	return answer
}

// open opens the Store anew. If the power is off, or goes off, it may tell ErrDevice, and then nothing else.
func (r *run) open(t *testing.T) bool {
	t.Helper()
	r.say("open")
	s, err := store.Open(r.d)
	if err != nil {
		r.want(t, told(err) == told(api.ErrDevice) && !r.d.On() && s == nil, s, err)
		return false
	}
	r.want(t, s != nil && !s.Down(), "it is Down")
	r.s = s
	r.found(t)
	return true
}

func (r *run) cut(changes int) {
	r.say("power ", changes)
	r.d.Cut(changes)
}

// start lets the power come back, and opens the Store anew.
func (r *run) start(t *testing.T, keeps int) {
	t.Helper()
	r.say("start ", keeps)
	r.d.Start(keeps)
	r.want(t, r.open(t), "it is not opened")
}

// series are those of a text such as "a=x b=y 1:5 2:6; job=z 3:1": words with = are labels, words with : a time and a value; what stands behind ; is another one.
func series(text string) (l []api.Series) {
	if strings.TrimSpace(text) == "" {
		return nil
	}
	for part := range strings.SplitSeq(text, ";") {
		var x api.Series
		for _, word := range strings.Fields(part) {
			if name, value, ok := strings.Cut(word, "="); ok {
				x.Labels = append(x.Labels, api.Label{Name: name, Value: value})
				continue
			}
			time, value, _ := strings.Cut(word, ":")
			x.Samples = append(x.Samples, api.Sample{Time: number(time), Value: number(value)})
		}
		l = append(l, x)
	}
	return l
}

func number(s string) int64 {
	n, err := strconv.ParseInt(s, 10, 64)
	if err != nil {
		panic(err)
	}
	return n
}

// text is series as series reads them.
func text(l []api.Series) string {
	var parts []string
	for _, x := range l {
		var words []string
		for _, one := range x.Labels {
			words = append(words, one.Name+"="+one.Value)
		}
		for _, s := range x.Samples {
			words = append(words, strconv.FormatInt(s.Time, 10)+":"+strconv.FormatInt(s.Value, 10))
		}
		parts = append(parts, strings.Join(words, " "))
	}
	return strings.Join(parts, "; ")
}

// ops are the marks that matchers of a text have, in the order of their numbers.
var ops = []string{"=", "!=", "^", "!^"}

// match are the matchers of a text such as "a=x b!^y": each a name, a mark and a value.
func match(text string) (l []api.Matcher) {
	for _, word := range strings.Fields(text) {
		from := strings.IndexAny(word, "!=^")
		to := from + strings.IndexAny(word[from:], "=^") + 1
		l = append(l, api.Matcher{Name: word[:from], Op: slices.Index(ops, word[from:to]), Value: word[to:]})
	}
	return l
}

// gone is that of a text such as "a=x b!^y 3 9": matchers, and at last from which time to which.
func gone(text string) api.Gone {
	words := strings.Fields(text)
	n := len(words) - 2
	return api.Gone{Match: match(strings.Join(words[:n], " ")), From: number(words[n]), To: number(words[n+1])}
}

// told is an error as a text: its number, and its place, if it has one; nothing, if there is none.
func told(err error) string {
	var a *api.At
	if err == nil {
		return ""
	}
	if !errors.As(err, &a) {
		return fmt.Sprint("error ", int(api.Tell(err)))
	}
	if a.Err != api.Tell(err) {
		return "error: an At of another one"
	}
	return fmt.Sprintf("error %d at %d", a.Err, a.Place)
}

// wantText holds a text against what it is to be.
func wantText(t *testing.T, what, got, want string) {
	t.Helper()
	if got != want {
		t.Errorf("%.300s: %.600s, not %.600s", what, got, want)
	}
}

// drawn makes numbers that look drawn, the same each time.
func drawn(seed uint64) *rand.Rand { return rand.New(rand.NewPCG(seed, 13)) }

func oneOf[T any](r *rand.Rand, l ...T) T { return l[r.IntN(len(l))] }

// anyLabels are labels that may be a series', of few names and values, so that many are alike.
func anyLabels(r *rand.Rand) (l []api.Label) {
	for _, name := range []string{"A", "a", "ab", "b"} {
		if r.IntN(2) == 0 {
			l = append(l, api.Label{Name: name, Value: oneOf(r, "x", "xy", "y")})
		}
	}
	if l == nil {
		return []api.Label{{Name: "a", Value: "x"}}
	}
	return l
}

// anySeries are series near a time, most of them such as may come.
func anySeries(r *rand.Rand, near int64, most int) (l []api.Series) {
	for range r.IntN(most + 1) {
		x := api.Series{Labels: anyLabels(r)}
		time := near + r.Int64N(9) - 1
		for range 1 + r.IntN(4) {
			x.Samples = append(x.Samples, api.Sample{Time: time, Value: r.Int64N(9) - 4 + r.Int64N(20)/19<<40})
			time += 1 + r.Int64N(4)
		}
		switch r.IntN(60) {
		case 0:
			x.Samples = nil
		case 1:
			x.Labels = append(x.Labels, api.Label{Name: "a", Value: "x"})
		case 2:
			x.Samples = append(x.Samples, x.Samples[0])
		}
		l = append(l, x)
	}
	return l
}

func anyMatch(r *rand.Rand) (l []api.Matcher) {
	for range r.IntN(3) {
		l = append(l, api.Matcher{Name: oneOf(r, names...), Op: r.IntN(4), Value: oneOf(r, "", "x", "xy", "y")})
	}
	return l
}

// anyOp is a call that changes something, near a time.
func anyOp(r *rand.Rand, near int64) op {
	switch n := r.IntN(20); {
	case n < 10:
		return op{word: "append", series: anySeries(r, near, 4)}
	case n < 14:
		return op{word: "cut", time: near + r.Int64N(20) - 10}
	case n < 17:
		from := near + r.Int64N(60) - 50
		return op{word: "delete", gone: api.Gone{Match: anyMatch(r), From: from, To: from + r.Int64N(30) - 3}}
	case n < 18:
		return op{word: "compact"}
	}
	return op{word: "retain", time: near - r.Int64N(60)}
}
