package store_test

import (
	"fmt"
	"slices"
	"strings"
	"testing"

	"raingauge/api"
	"raingauge/disk"
	"raingauge/store"
	"raingauge/wal"
)

// The heads of the chapter's functions.
var (
	_ func(*disk.Disk) (*store.Store, error)                                         = store.Open
	_ func(*store.Store) bool                                                        = (*store.Store).Down
	_ func(*store.Store) int64                                                       = (*store.Store).Mark
	_ func(*store.Store) (numbers, to []int64)                                       = (*store.Store).Blocks
	_ func(*store.Store, []api.Series) error                                         = (*store.Store).Append
	_ func(*store.Store, int64) error                                                = (*store.Store).Cut
	_ func(*store.Store, api.Gone) error                                             = (*store.Store).Delete
	_ func(*store.Store) error                                                       = (*store.Store).Compact
	_ func(*store.Store, int64) (int, error)                                         = (*store.Store).Retain
	_ func(*store.Store, []api.Matcher, int64, int64) ([]api.Series, error)          = (*store.Store).Select
	_ func(*store.Store, []api.Matcher, int64, int64, int64) ([]store.Rolled, error) = (*store.Store).Rollup
	_ func(*store.Store, *api.Ask, int64) ([]api.Point, bool, error)                 = (*store.Store).Query
	_ func(*store.Store, string) ([]string, error)                                   = (*store.Store).Values
	_                                                                                = store.Rolled{Labels: []api.Label{}, Buckets: []api.Bucket{}}
)

// opened is the Store of a disk, which must be there.
func opened(t *testing.T, d *disk.Disk) *store.Store {
	t.Helper()
	s, err := store.Open(d)
	if s == nil || err != nil {
		t.Fatalf("it is not opened: %v", err)
	}
	return s
}

// seen are Mark and Blocks.
func seen(s *store.Store) string {
	numbers, to := s.Blocks()
	return fmt.Sprintf("%d %d to %d", s.Mark(), numbers, to)
}

// all are ALL series.
func all(t *testing.T, s *store.Store) string {
	t.Helper()
	l, err := s.Select(nil, least, greatest)
	if err != nil {
		t.Errorf("Select: %v", err)
	}
	return text(l)
}

// wantDo: a call answers that; if it is an error, nothing changes.
func wantDo(t *testing.T, r *run, line, want string) {
	t.Helper()
	was := look(r.s)
	wantText(t, line, r.do(t, does(line)), want)
	if strings.HasPrefix(want, "error") {
		wantText(t, "behind the error of "+line, look(r.s), was)
	}
}

// named are a series' labels, by a number.
func named(number int) []api.Label {
	return []api.Label{{Name: "a", Value: fmt.Sprint("n", number)}}
}

// even are samples, one at each time.
func even(from int64, count int) (l []api.Sample) {
	for i := range int64(count) {
		l = append(l, api.Sample{Time: from + i, Value: i % 7})
	}
	return l
}

// fill lets many samples come, one at each time.
func fill(t *testing.T, s *store.Store, labels []api.Label, from int64, count int) {
	t.Helper()
	for samples := range slices.Chunk(even(from, count), api.MaxBatch) {
		if err := s.Append([]api.Series{{Labels: labels, Samples: samples}}); err != nil {
			t.Fatalf("Append: %v", err)
		}
	}
}

// 13.1: Open: ErrMissing, if there is no disk, and nothing else.
func TestNoDisk(t *testing.T) {
	s, err := store.Open(nil)
	if s != nil || told(err) != told(api.ErrMissing) {
		t.Errorf("Open of no disk: %v, %v", s, err)
	}
}

// 13.1: at first the mark is one below -MaxTime, and there is nothing; opened so often as one likes.
func TestFirst(t *testing.T) {
	d := &disk.Disk{}
	for range 3 {
		s := opened(t, d)
		wantText(t, "at first", seen(s), "-1099511627777 [] to []")
		wantText(t, "at first", all(t, s), "")
		if s.Down() {
			t.Error("at first it is Down")
		}
	}
	d.Cut(0) // with the power off nothing must be put right, but ErrDevice may be told
	if s, err := store.Open(d); err == nil {
		wantText(t, "at first, without power", look(s), newModel().look())
	} else if s != nil || told(err) != told(api.ErrDevice) {
		t.Errorf("Open of an empty disk without power: %v, %v", s, err)
	}
}

// 13.1, 13.2: samples come above the mark, at -MaxTime, too; the first block's number is 0.
func TestFromTheFirstTimeOn(t *testing.T) {
	r := began(t)
	for _, line := range [][2]string{
		{"append a=x -1099511627777:1", "error 1 at 0"},
		{"append a=x -1099511627776:1", ""},
		{"cut -1099511627776", ""},
		{"append a=x -1099511627776:1", "error 10 at 0"},
		{"append a=x -1099511627775:2 1099511627776:3", ""},
		{"cut 1099511627776", ""},
	} {
		wantDo(t, r, line[0], line[1])
	}
	wantText(t, "at both ends of time", seen(r.s), "1099511627776 [0 1] to [-1099511627776 1099511627776]")
	wantText(t, "at both ends of time", all(t, r.s), "a=x -1099511627776:1 -1099511627775:2 1099511627776:3")
}

// script is a row of calls; behind each: its answer, Mark and Blocks, ALL series.
func script() [][4]string {
	return [][4]string{
		{"append b=y 5:1 9:2; a=x 7:3", "", "-1099511627777 [] to []", "a=x 7:3; b=y 5:1 9:2"},
		{"append a=x 7:4", "error 10 at 0", "-1099511627777 [] to []", "a=x 7:3; b=y 5:1 9:2"},
		{"compact", "error 7", "-1099511627777 [] to []", "a=x 7:3; b=y 5:1 9:2"},
		{"retain 9", "0", "-1099511627777 [] to []", "a=x 7:3; b=y 5:1 9:2"},
		{"cut 4", "", "4 [] to []", "a=x 7:3; b=y 5:1 9:2"},
		{"append c=z 4:1", "error 10 at 0", "4 [] to []", "a=x 7:3; b=y 5:1 9:2"},
		{"append c=z 5:1", "", "4 [] to []", "a=x 7:3; b=y 5:1 9:2; c=z 5:1"},
		{"cut 8", "", "8 [0] to [8]", "a=x 7:3; b=y 5:1 9:2; c=z 5:1"},
		{"cut 8", "", "8 [0] to [8]", "a=x 7:3; b=y 5:1 9:2; c=z 5:1"},
		{"cut 3", "", "8 [0] to [8]", "a=x 7:3; b=y 5:1 9:2; c=z 5:1"},
		{"append a=x 8:0", "error 10 at 0", "8 [0] to [8]", "a=x 7:3; b=y 5:1 9:2; c=z 5:1"},
		{"append a=x 9:4", "", "8 [0] to [8]", "a=x 7:3 9:4; b=y 5:1 9:2; c=z 5:1"},
		{"cut 20", "", "20 [0 1] to [8 20]", "a=x 7:3 9:4; b=y 5:1 9:2; c=z 5:1"},
		{"delete b^y 5 5", "", "20 [0 1] to [8 20]", "a=x 7:3 9:4; b=y 9:2; c=z 5:1"},
		{"compact", "", "20 [2] to [20]", "a=x 7:3 9:4; b=y 9:2; c=z 5:1"},
		{"compact", "", "20 [3] to [20]", "a=x 7:3 9:4; b=y 9:2; c=z 5:1"},
		{"append b=y 21:5 30:6", "", "20 [3] to [20]", "a=x 7:3 9:4; b=y 9:2 21:5 30:6; c=z 5:1"},
		{"cut 25", "", "25 [3 4] to [20 25]", "a=x 7:3 9:4; b=y 9:2 21:5 30:6; c=z 5:1"},
		{"retain 19", "0", "25 [3 4] to [20 25]", "a=x 7:3 9:4; b=y 9:2 21:5 30:6; c=z 5:1"},
		{"retain 20", "1", "25 [4] to [25]", "b=y 21:5 30:6"},
		{"retain 20", "0", "25 [4] to [25]", "b=y 21:5 30:6"},
		{"delete 0 29", "", "25 [4] to [25]", "b=y 30:6"},
		{"compact", "", "25 [5] to [25]", "b=y 30:6"},
		{"retain 100", "1", "25 [] to []", "b=y 30:6"},
		{"compact", "error 7", "25 [] to []", "b=y 30:6"},
		{"append a=x 25:0", "error 10 at 0", "25 [] to []", "b=y 30:6"},
		{"append a=x 26:0", "", "25 [] to []", "a=x 26:0; b=y 30:6"},
		{"cut 40", "", "40 [6] to [40]", "a=x 26:0; b=y 30:6"},
		{"delete a=x 26 26", "", "40 [6] to [40]", "b=y 30:6"},
		{"delete b=y 30 30", "", "40 [6] to [40]", ""},
		{"cut 50", "", "50 [6] to [40]", ""},
		{"retain 39", "0", "50 [6] to [40]", ""},
		{"retain 40", "1", "50 [] to []", ""},
	}
}

// 13.1, 13.2: what each call answers, Mark, Blocks and ALL series behind it; also opened anew behind each, with what is SAFE alone.
func TestScript(t *testing.T) {
	for _, anew := range []bool{false, true} {
		r := began(t)
		for i, row := range script() {
			what := fmt.Sprint(i, ": ", row[0], ", opened anew: ", anew)
			wantText(t, what, r.do(t, does(row[0])), row[1])
			if anew {
				r.start(t, -1)
			}
			wantText(t, what, seen(r.s), row[2])
			wantText(t, what, all(t, r.s), row[3])
		}
	}
}

// 13.1: a Store that is opened beside another one has what that has, and that one goes on.
func TestOpenedBeside(t *testing.T) {
	r := began(t)
	for _, row := range script() {
		r.do(t, does(row[0]))
		wantText(t, "beside, behind "+row[0], look(opened(t, r.d)), look(r.s))
	}
}

// changes are a call of each kind, each of which changes something behind filling.
var (
	filling = []string{"append a=x 1:1; b=y 2:2", "cut 3", "append a=x 4:1; b=y 5:2", "cut 6", "delete b=y 2 2", "append a=x 8:2"}
	changes = []string{"append a=x 9:3 10:4; c=z 9:1", "cut 8", "cut 7", "delete a=x 1 4", "delete none=y 0 9", "compact", "retain 3", "retain 6"}
	wrongs  = []string{"append a=x", "append a=x 0:1", "cut 1099511627777", "delete none=x none=x none=x none=x none=x none=x none=x none=x none=x 1 2"}
	idles   = []string{"append ", "cut 6", "cut -5", "retain 2"}
)

// 13.1: without power, all that changes something tells ErrDevice (behind what else is wrong), and it is Down: ErrState, whatever is told; what there is can be asked on, and is as before.
func TestDown(t *testing.T) {
	for _, line := range slices.Concat(changes, idles) {
		r := began(t, filling...)
		was := look(r.s)
		r.cut(0)
		for _, wrong := range wrongs {
			if answer := r.do(t, does(wrong)); r.s.Down() || answer == "" || answer == told(api.ErrDevice) {
				t.Errorf("%s without power: %q, Down: %v", wrong, answer, r.s.Down())
			}
		}
		wantText(t, line+" without power", r.do(t, does(line)), does(line).device())
		for range 2 {
			for _, more := range slices.Concat(changes, wrongs, idles, []string{line}) {
				wantText(t, more+" when it is Down", does(more).do(r.s), does(more).state())
			}
			if !r.s.Down() {
				t.Errorf("%s: it is not Down", line)
			}
			wantText(t, line+" failed", look(r.s), was)
			r.d.Start(-1) // opened anew it is Down no more, but not as it is
		}
		r.want(t, r.open(t), "it is not opened")
		wantText(t, line+" once more", r.do(t, does(line)), does(line).do(began(t, filling...).s))
	}
}

// 13.1: no blocks are told with an error, and of nothing that was put away is told more than once.
func TestRetainDown(t *testing.T) {
	r := began(t, filling...)
	r.cut(0)
	for _, want := range []api.Errno{api.ErrDevice, api.ErrState} {
		if n, err := r.s.Retain(6); n != 0 || told(err) != told(want) {
			t.Errorf("Retain tells %d, %v", n, err)
		}
	}
}

// 13.1: Open without power tells ErrDevice, or what lies there; with power that goes off, too, and when it is back, all is there.
func TestOpenWithoutPower(t *testing.T) {
	for power := range 6 {
		r := began(t, filling...)
		r.cut(power)
		r.open(t)
		r.start(t, -1)
	}
}

// keepings are how many bytes a Start keeps.
var keepings = []int{least, -1, 0, 1, 2, 5, 9, 17, 30, 64, 100, 1000, greatest}

// upTo does an op with power for more and more changes, until it is done without an error: each time of a new run, with what comes ahead of it, and then.
func upTo(t *testing.T, lines []string, ahead func(r *run), o op, then func(r *run)) {
	t.Helper()
	for power := 0; ; power++ {
		r := began(t, lines...)
		ahead(r)
		r.cut(power)
		answer := r.do(t, o)
		then(r)
		if answer != o.device() {
			return
		}
		if power > 200 {
			t.Fatalf("%v is never done", o)
		}
	}
}

func nothing(*run) {}

// 13.4: wherever the power goes off, and whatever Start kept, it is done, or not; and all goes on from there.
func TestPower(t *testing.T) {
	for _, line := range slices.Concat(changes, idles) {
		for _, keeps := range keepings {
			upTo(t, filling, nothing, does(line), func(r *run) {
				r.start(t, keeps)
				for _, row := range []string{"append a=x 11:1; d=w 11:1", "cut 11", "delete a=x 8 11", "compact", "append a=x 12:1", "retain 20"} {
					r.do(t, does(row))
				}
				r.start(t, -1)
			})
		}
	}
}

// 13.4: also with the power going off again while it is opened, twice.
func TestPowerAgain(t *testing.T) {
	for _, line := range slices.Concat(changes, idles) {
		for _, keeps := range []int{-1, 0, 1, 40, greatest} {
			for again := range 7 {
				upTo(t, filling, nothing, does(line), func(r *run) {
					for _, k := range []int{keeps, 1, 0} {
						r.d.Start(k)
						r.cut(again)
						r.open(t)
					}
					r.start(t, keeps)
					r.do(t, does("append a=x 11:1"))
					r.start(t, -1)
				})
			}
		}
	}
}

// 13.4: all rows of three calls, the power going off within the last one, or ahead of it.
func TestPowerRows(t *testing.T) {
	lines := []string{"append a=x 5:1; b=y 3:1", "append a=x 6:1 9:1", "cut 4", "cut 7", "delete a=x 5 6", "compact", "retain 4", "retain 9"}
	for _, first := range lines {
		for _, second := range lines {
			for _, third := range lines {
				for _, keeps := range []int{-1, 3} {
					ahead := func(r *run) {
						r.do(t, does(first))
						r.do(t, does(second))
					}
					upTo(t, []string{"append a=x 1:1; c=z 2:1", "cut 2"}, ahead, does(third), func(r *run) { r.start(t, keeps) })
				}
			}
		}
	}
}

// 13.4: many calls, drawn, the power going off here and there, also while it is opened, with any number of bytes kept.
func TestPowerAny(t *testing.T) {
	for seed := range uint64(120) {
		rnd := drawn(seed)
		r := began(t)
		near := rnd.Int64N(20)
		for range 30 {
			if rnd.IntN(4) == 0 {
				r.cut(rnd.IntN(12))
			}
			r.do(t, anyOp(rnd, near))
			near += rnd.Int64N(8)
			if !r.s.Down() && rnd.IntN(6) > 0 {
				continue
			}
			r.d.Start(rnd.IntN(60) - 5)
			for r.cut(rnd.IntN(7)); !r.open(t); r.cut(rnd.IntN(7)) {
				r.d.Start(rnd.IntN(60) - 5)
			}
			r.d.Cut(-1)
		}
	}
}

// 13.2, 13.3: many calls, drawn, against the model, some opened anew.
func TestAny(t *testing.T) {
	for seed := range uint64(80) {
		rnd := drawn(seed + 1000)
		r := began(t)
		near := rnd.Int64N(20) - 10
		for range 60 {
			r.do(t, anyOp(rnd, near))
			near += rnd.Int64N(6)
			if rnd.IntN(8) == 0 {
				r.start(t, rnd.IntN(20)-3)
			}
			m := r.known[0]
			match, from := anyMatch(rnd), near-rnd.Int64N(40)
			to := from + rnd.Int64N(40) - 3
			l, err := r.s.Select(match, from, to)
			r.want(t, err == nil && text(l) == text(m.selected(match, from, to)), "Select of ", match, from, to, ": ", text(l), err)
		}
	}
}

// 13.2: Append tells Append's errors (9.1), with their At, in their order; none came then.
func TestAppendErrors(t *testing.T) {
	big := "append "
	for i := range 41 {
		big += fmt.Sprintf("a=x %d:1;", 100+i)
	}
	for _, row := range [][2]string{
		{strings.TrimSuffix(big, ";"), "error 4"},
		{"append a=x", "error 1 at 0"},
		{"append 9:1", "error 1 at 0"},
		{"append a=x 9:1; b=y a=x 9:1", "error 1 at 1"},
		{"append a=x 9:1; b=y 9:1 9:2", "error 1 at 1"},
		{"append a=x 9:1; b=y 1099511627777:1", "error 1 at 1"},
		{"append a=x 9:1; b=y 6:1", "error 10 at 1"},
		{"append a=x 9:1; c=z 6:1; b=y", "error 10 at 1"},
		{"append a=x 8:1", "error 10 at 0"},
		{"append b=y 9:1; a=x 9:1; a=x 9:1", "error 10 at 2"},
		{"append b=y 9:1; a=x 9:1; a=x 10:1", ""},
	} {
		r := began(t, filling...)
		wantDo(t, r, row[0], row[1])
	}
}

// 13.2: Append tells ErrFull (9.1) if there are MaxSeries series in the Head; of those that are put away there may be more.
func TestManySeries(t *testing.T) {
	r := began(t)
	for i := range 60 {
		fill(t, r.s, named(i), 1, 1)
	}
	for _, batch := range [][]api.Series{{{Labels: named(60), Samples: even(1, 1)}}, {{Labels: named(0), Samples: even(2, 1)}, {Labels: named(60), Samples: even(2, 1)}}} {
		wantText(t, "more than MaxSeries", told(r.s.Append(batch)), fmt.Sprint("error 12 at ", len(batch)-1))
	}
	if err := r.s.Cut(1); err != nil {
		t.Fatal(err)
	}
	for i := range 60 {
		fill(t, r.s, named(30+i), 2, 1)
	}
	wantText(t, "more than MaxSeries", told(r.s.Append([]api.Series{{Labels: named(90), Samples: even(3, 1)}})), "error 12 at 0")
	for range 2 {
		if l, _ := r.s.Select(nil, least, greatest); len(l) != 90 {
			t.Errorf("there are %d series", len(l))
		}
		if err := r.s.Cut(2); err != nil {
			t.Fatal(err)
		}
		r.s = opened(t, r.d)
	}
}

// fullStore has 2000 - room samples of a series: in two blocks, and in the Head.
func fullStore(t *testing.T, room int) *store.Store {
	t.Helper()
	s := opened(t, &disk.Disk{})
	fill(t, s, named(1), 1, 700)
	for _, time := range []int64{300, 700} {
		if err := s.Cut(time); err != nil {
			t.Fatal(err)
		}
	}
	fill(t, s, named(1), 701, 1300-room)
	fill(t, s, named(2), 701, 100)
	return s
}

// 13.2: ErrFull, an At at the first one whose series would have more than MaxSamples in the Head and all blocks together; exactly so many may be.
func TestSamplesFull(t *testing.T) {
	one, other := named(1), named(2)
	for room := range 4 {
		for count := 1; count < 6; count++ {
			s := fullStore(t, room)
			was := look(s)
			l := []api.Series{{Labels: other, Samples: even(5000, 2)}, {Labels: one, Samples: even(5000, count)}, {Labels: one, Samples: even(6000, max(room, 1))}, {Labels: other, Samples: even(6000, 2)}}
			wantText(t, fmt.Sprint(count, " of ", room, ", and more"), told(s.Append(l)), "error 12 at 1") // also where the first of the two has room by itself
			wantText(t, "none came", look(s), was)
			if s.Down() {
				t.Error("it is Down")
			}
			want := "error 12 at 1"
			if count <= room {
				want = ""
			}
			wantText(t, fmt.Sprint(count, " of ", room), told(s.Append(l[:2])), want)
		}
	}
}

// batches are all of up to three series that come one behind the other, each the one or the other one, of one sample or of two.
func batches() (l [][]api.Series) {
	for most := range 3 {
		for code := range 4 << (2 * most) {
			var batch []api.Series
			for place := range most + 1 {
				what := code >> (2 * place) & 3
				batch = append(batch, api.Series{Labels: named(1 + what&1), Samples: even(5000+10*int64(place), 1+what>>1)})
			}
			l = append(l, batch)
		}
	}
	return l
}

// firstFull is the place of the first one whose series comes, in all, with more samples than there is room for; -1: there is none.
func firstFull(l []api.Series, room map[string]int) int {
	comes := map[string]int{}
	for _, x := range l {
		comes[key(x.Labels)] += len(x.Samples)
	}
	return slices.IndexFunc(l, func(x api.Series) bool { return comes[key(x.Labels)] > room[key(x.Labels)] })
}

// 13.2: what a series would have is what it would have with all that comes of it, so that the first of several is told; wherever the others stand, and if there is room for none, one or several. Of what is told full nothing comes, and nothing is noted.
func TestTwiceFull(t *testing.T) {
	for rooms := range 16 {
		d := &disk.Disk{}
		s := opened(t, d)
		room := map[string]int{key(named(1)): rooms % 4, key(named(2)): rooms / 4}
		fill(t, s, named(1), 1, 1200)
		fill(t, s, named(2), 1, 300)
		if err := s.Cut(900); err != nil {
			t.Fatal(err)
		}
		fill(t, s, named(1), 1201, 800-room[key(named(1))])
		fill(t, s, named(2), 1201, 1700-room[key(named(2))])
		was := look(s)
		for _, l := range batches() {
			place, want := firstFull(l, room), ""
			if place >= 0 {
				want = fmt.Sprint("error 12 at ", place)
			}
			wantText(t, fmt.Sprint("rooms ", rooms, ": ", text(l)), told(s.Append(l)), want)
			if place < 0 {
				s = opened(t, d) // what came is noted
				if err := s.Delete(gone("5000 9999")); err != nil {
					t.Fatal(err)
				}
			}
			wantText(t, fmt.Sprint("rooms ", rooms, ": behind ", text(l)), look(s), was)
		}
		wantText(t, fmt.Sprint("rooms ", rooms, ": opened anew"), look(opened(t, d)), was)
	}
}

// 13.2: what the Head finds wrong is told ahead of that, also of one that stands behind.
func TestFullBehindHeadErrors(t *testing.T) {
	for _, row := range [][2]string{
		{"a=n1 5000:1; b=y", "error 1 at 1"},
		{"a=n1 5000:1; b=y 700:1", "error 10 at 1"},
		{"a=n1 5000:1; a=n2 750:1", "error 10 at 1"},
		{"a=n2 5000:1; a=n1 5000:1; a=n1 5000:1", "error 10 at 2"},
		{"a=n2 5000:1; a=n1 5000:1", "error 12 at 1"},
	} {
		s := fullStore(t, 0)
		wantText(t, row[0], told(s.Append(series(row[0]))), row[1])
	}
}

// 13.2: of the Head alone it is the Head's, too, at the same place.
func TestHeadFull(t *testing.T) {
	s := opened(t, &disk.Disk{})
	fill(t, s, named(1), 1, 2000)
	wantText(t, "of the Head", told(s.Append([]api.Series{{Labels: named(2), Samples: even(5000, 1)}, {Labels: named(1), Samples: even(5000, 1)}})), "error 12 at 1")
}

// 13.2: the Head's own (9.1) is told one by one, and ahead: at the second of two, where with what is put away the first one would be told.
func TestHeadFullTwice(t *testing.T) {
	for _, row := range []struct {
		away, head, second int
		want               string
	}{
		{0, 1998, 1, ""}, {0, 1999, 1, "error 12 at 1"}, {0, 2000, 1, "error 12 at 0"},
		{1, 1997, 1, ""}, {1, 1997, 2, "error 12 at 0"}, {1, 1998, 1, "error 12 at 0"}, {1, 1998, 2, "error 12 at 1"}, {1, 1999, 1, "error 12 at 1"},
		{40, 1960, 39, "error 12 at 0"},
	} {
		s := opened(t, &disk.Disk{})
		fill(t, s, named(1), 1, row.away)
		if err := s.Cut(100); err != nil {
			t.Fatal(err)
		}
		fill(t, s, named(1), 101, row.head)
		l := []api.Series{{Labels: named(1), Samples: even(5000, 1)}, {Labels: named(1), Samples: even(6000, row.second)}}
		wantText(t, fmt.Sprint(row), told(s.Append(l)), row.want)
	}
}

// 13.2: what is taken out, and what goes with its block, leaves room; what is put away, or put together, does not.
func TestRoom(t *testing.T) {
	for name, row := range map[string]struct {
		change func(s *store.Store) error
		room   int
	}{
		"cut":                      {func(s *store.Store) error { return s.Cut(1500) }, 0},
		"compact":                  {func(s *store.Store) error { return s.Compact() }, 0},
		"delete in the Head":       {func(s *store.Store) error { return s.Delete(gone("a=n1 1000 1002")) }, 3},
		"delete in a block":        {func(s *store.Store) error { return s.Delete(gone("a=n1 7 10")) }, 4},
		"delete in both":           {func(s *store.Store) error { return s.Delete(gone("a=n1 699 701")) }, 3},
		"delete of another series": {func(s *store.Store) error { return s.Delete(gone("a=n2 0 9999")) }, 0},
		"retain":                   {func(s *store.Store) error { _, err := s.Retain(300); return err }, 300},
	} {
		s := fullStore(t, 0)
		if err := row.change(s); err != nil {
			t.Fatal(name, err)
		}
		fill(t, s, named(1), 5000, row.room)
		wantText(t, name, told(s.Append([]api.Series{{Labels: named(1), Samples: even(9000, 1)}})), "error 12 at 0")
	}
}

// 13.2: Cut: ErrRange, unless the time is from -MaxTime to MaxTime.
func TestCutRange(t *testing.T) {
	for time, want := range map[int64]string{
		least: "error 2", least + 1: "error 2", -api.MaxTime - 1: "error 2", -api.MaxTime: "", 0: "", api.MaxTime: "", api.MaxTime + 1: "error 2", greatest - 1: "error 2", greatest: "error 2",
	} {
		for _, lines := range [][]string{nil, filling} {
			wantDo(t, began(t, lines...), fmt.Sprint("cut ", time), want)
		}
	}
}

// blocky has so many blocks, each with a sample, and a sample in the Head.
func blocky(t *testing.T, count int) *run {
	t.Helper()
	r := began(t)
	for i := range count {
		for _, line := range []string{fmt.Sprintf("append a=x %d:%d", i, i), fmt.Sprint("cut ", i)} {
			wantText(t, line, does(line).do(r.s), "")
			r.known[0], _ = r.known[0].did(does(line))
		}
	}
	wantDo(t, r, "append a=x 1000:1", "")
	return r
}

// 13.2: Cut: ErrFull, if there are MaxBlocks, whether there are samples to put away or not; ErrRange is told ahead of it.
func TestCutFull(t *testing.T) {
	for _, line := range []string{"cut 1000", "cut 999", "cut 5", "cut -1099511627776"} {
		wantDo(t, blocky(t, 30), line, "error 12")
	}
	wantDo(t, blocky(t, 30), "cut 1099511627777", "error 2")
	r := blocky(t, 29)
	wantDo(t, r, "cut 999", "")
	wantDo(t, r, "cut 1000", "")
	wantDo(t, r, "cut 1001", "error 12")
	r.start(t, 0)
	wantDo(t, r, "cut 1001", "error 12")
	wantDo(t, r, "retain 0", "1")
	wantDo(t, r, "cut 1001", "")
	wantDo(t, r, "append a=x 2000:1", "")
	wantDo(t, r, "cut 2000", "")
	wantDo(t, r, "cut 2000", "error 12")
	wantDo(t, r, "compact", "")
	wantText(t, "behind Compact", seen(r.s), "2000 [31] to [2000]")
	wantDo(t, r, "cut 2001", "")
}

// 13.2: Delete: ErrArg, unless matchers are Asked.
func TestDeleteWrong(t *testing.T) {
	for _, m := range wrongMatchers() {
		r := began(t, filling...)
		was := look(r.s)
		wantText(t, fmt.Sprint("Delete of ", m), told(r.s.Delete(api.Gone{Match: m, From: 0, To: 100})), "error 1")
		wantText(t, fmt.Sprint("behind Delete of ", m), look(r.s), was)
	}
}

// wrongMatchers are none that may be asked.
func wrongMatchers() [][]api.Matcher {
	nine := slices.Repeat([]api.Matcher{{Name: "a", Op: api.Begins}}, 9)
	l := [][]api.Matcher{nine, append(match("a=x"), api.Matcher{Name: "1"})}
	for _, m := range []api.Matcher{
		{}, {Name: "1a"}, {Name: "a b"}, {Name: "ä"}, {Name: strings.Repeat("n", 25)}, {Name: "a", Op: -1}, {Name: "a", Op: 4}, {Name: "a", Op: greatest},
		{Name: "a", Value: `"`}, {Name: "a", Value: `\`}, {Name: "a", Value: "\n"}, {Name: "a", Value: "\x7f"}, {Name: "a", Value: strings.Repeat("v", 25)},
	} {
		l = append(l, []api.Matcher{m})
	}
	return l
}

// 13.2: Delete: ErrFull, if it was done two hundred times since the last Compact, whether samples went or not; ErrArg is told ahead of it.
func TestDeleteFull(t *testing.T) {
	r := began(t, "append a=x 1:1 2:2", "cut 1")
	many := func(count int) {
		t.Helper()
		for range count {
			wantText(t, "Delete", told(r.s.Delete(gone("none=x 9 1"))), "")
			r.known[0].deletes++
		}
	}
	full := func() {
		t.Helper()
		wantDo(t, r, "delete a=x 1 1", "error 12")
		wantText(t, "wrong and full", told(r.s.Delete(api.Gone{Match: match("1=x")})), "error 1")
	}
	many(199)
	wantText(t, "wrong", told(r.s.Delete(api.Gone{Match: match("1=x")})), "error 1") // it is not done: it is not counted
	many(1)
	full()
	r.start(t, -1)
	full()
	for _, line := range []string{"cut 2", "append a=x 5:1", "cut 5"} { // none of them begins anew
		wantDo(t, r, line, "")
		full()
	}
	wantDo(t, r, "retain 1", "1")
	full()
	wantDo(t, r, "compact", "")
	wantDo(t, r, "delete a=x 2 2", "")
	many(199)
	full()
	wantDo(t, r, "retain 9", "1")
	wantDo(t, r, "compact", "error 7") // there are no blocks: nothing is put together
	full()
	wantDo(t, r, "append a=x 10:1", "")
	wantDo(t, r, "cut 10", "")
	full()
	wantDo(t, r, "compact", "")
	r.start(t, -1)
	many(200)
	full()
}

// 13.2: a Delete that failed, and of which nothing can be seen, counts, or not: two hundred are never refused then, nor are more than two hundred done.
func TestDeleteCountsOrNot(t *testing.T) {
	for power := range 4 {
		for _, keeps := range []int{-1, greatest} {
			r := began(t, "append a=x 1:1")
			r.cut(power)
			counted := r.do(t, does("delete none=x 0 9")) == ""
			r.start(t, keeps)
			done := 0
			for r.s.Delete(gone("none=x 0 9")) == nil {
				done++
			}
			if done != 199 && (counted || done != 200) {
				t.Errorf("behind power for %d changes, and %d bytes kept, Delete was done %d times more", power, keeps, done)
			}
		}
	}
}

// 13.2: samples go from the Head and from all blocks; ones that come later, at the same times, stay, also when they are put away, put together, and opened anew.
func TestComeLater(t *testing.T) {
	for _, anew := range []bool{false, true} {
		r := began(t, "append a=x 1:1; b=y 1:1", "cut 2", "append a=x 4:2; b=y 4:2", "cut 4", "append a=x 6:3 7:4; b=y 6:3")
		step := func(line, want string) {
			t.Helper()
			if line != "" {
				wantText(t, line, strings.TrimSpace(r.do(t, does(line))), "")
			}
			if anew {
				r.start(t, -1)
			}
			wantText(t, "behind "+line, all(t, r.s), want)
		}
		step("delete a=x 0 100", "b=y 1:1 4:2 6:3")
		step("append a=x 5:9 6:8 7:7", "a=x 5:9 6:8 7:7; b=y 1:1 4:2 6:3")
		step("cut 6", "a=x 5:9 6:8 7:7; b=y 1:1 4:2 6:3")
		step("delete a=x 7 8", "a=x 5:9 6:8; b=y 1:1 4:2 6:3")
		step("append a=x 7:6 8:5", "a=x 5:9 6:8 7:6 8:5; b=y 1:1 4:2 6:3")
		step("cut 8", "a=x 5:9 6:8 7:6 8:5; b=y 1:1 4:2 6:3")
		wantText(t, "blocks", seen(r.s), "8 [0 1 2 3] to [2 4 6 8]")
		step("delete b=y 4 4", "a=x 5:9 6:8 7:6 8:5; b=y 1:1 6:3")
		step("compact", "a=x 5:9 6:8 7:6 8:5; b=y 1:1 6:3")
		step("append b=y 9:4", "a=x 5:9 6:8 7:6 8:5; b=y 1:1 6:3 9:4")
		step("cut 100", "a=x 5:9 6:8 7:6 8:5; b=y 1:1 6:3 9:4")
		wantText(t, "blocks", seen(r.s), "100 [4 5] to [8 100]")
	}
}

// 13.2: a block whose samples are all gone stays a block, and is one, put together, too.
func TestEmptyBlocks(t *testing.T) {
	r := began(t, "append a=x 1:1", "cut 2", "append a=x 3:1", "cut 4", "delete 0 9")
	wantText(t, "blocks", seen(r.s), "4 [0 1] to [2 4]")
	wantDo(t, r, "compact", "")
	wantText(t, "blocks", seen(r.s), "4 [2] to [4]")
	r.start(t, -1)
	wantText(t, "blocks", seen(r.s), "4 [2] to [4]")
	wantDo(t, r, "retain 3", "0")
	wantDo(t, r, "retain 4", "1")
}

// 13.2: Retain: the blocks go whose To is not above the time, of none and of all, at each edge.
func TestRetain(t *testing.T) {
	lines := []string{"append a=x 1:1; b=y 1:1", "cut 3", "append a=x 5:2", "cut 6", "append b=y 8:3 20:4", "cut 9"}
	for time, want := range map[int64][2]string{
		least: {"0", "[0 1 2] to [3 6 9]"}, -api.MaxTime: {"0", "[0 1 2] to [3 6 9]"}, 2: {"0", "[0 1 2] to [3 6 9]"}, 3: {"1", "[1 2] to [6 9]"}, 4: {"1", "[1 2] to [6 9]"},
		5: {"1", "[1 2] to [6 9]"}, 6: {"2", "[2] to [9]"}, 8: {"2", "[2] to [9]"}, 9: {"3", "[] to []"}, 10: {"3", "[] to []"}, 20: {"3", "[] to []"}, api.MaxTime + 1: {"3", "[] to []"}, greatest: {"3", "[] to []"},
	} {
		r := began(t, lines...)
		wantDo(t, r, fmt.Sprint("retain ", time), want[0])
		wantText(t, fmt.Sprint("retain ", time), seen(r.s), "9 "+want[1])
		r.start(t, -1)
		wantDo(t, r, "append b=y 20:4", "error 10 at 0") // what lies in the Head stays
		wantDo(t, r, "cut 20", "")
		if numbers, _ := r.s.Blocks(); numbers[len(numbers)-1] != 3 {
			t.Errorf("behind Retain the next block's number is %d", numbers[len(numbers)-1])
		}
	}
}

// 13.2: numbers are never given twice, and the mark stays, also when blocks go and all is opened anew.
func TestNumbers(t *testing.T) {
	r := began(t)
	for i := range int64(12) {
		wantDo(t, r, fmt.Sprintf("append a=x %d:1", 10*i), "")
		wantDo(t, r, fmt.Sprint("cut ", 10*i+5), "")
		wantText(t, "blocks", seen(r.s), fmt.Sprintf("%d [%d] to [%d]", 10*i+5, 2*i, 10*i+5))
		if i%3 == 0 {
			r.start(t, -1)
		}
		wantDo(t, r, "compact", "")
		wantText(t, "blocks", seen(r.s), fmt.Sprintf("%d [%d] to [%d]", 10*i+5, 2*i+1, 10*i+5))
		wantDo(t, r, "retain 1000", "1")
		if i%2 == 0 {
			r.start(t, -1)
		}
		wantText(t, "blocks", seen(r.s), fmt.Sprintf("%d [] to []", 10*i+5))
		wantDo(t, r, fmt.Sprintf("append a=x %d:1", 10*i+5), "error 10 at 0")
	}
}

// 13.1: it lies in files of its own: those of other names stay as they are.
func TestOtherFiles(t *testing.T) {
	others := []string{"a", "b", "block", "blocks", "store", "x/block/0", "~"}
	d := &disk.Disk{}
	for _, name := range others {
		if d.Append(name, name) != nil || d.Sync(name) != nil || d.Append(name, "more") != nil {
			t.Fatal(name)
		}
	}
	r := &run{d: d, known: []model{newModel()}}
	r.open(t)
	for _, row := range script() {
		r.do(t, does(row[0]))
		r.want(t, r.open(t), "it is not opened")
	}
	for _, more := range []string{"more", ""} {
		for _, name := range others {
			if s, err := d.Read(name); s != name+more || err != nil {
				t.Errorf("%s became %q, %v", name, s, err)
			}
		}
		d.Start(0)
	}
}

// 13.2: what goes leaves the disk, too: behind Retain and Compact it is as great as one on which it never lay.
func TestDiskStaysSmall(t *testing.T) {
	size := func(d *disk.Disk) (n int) {
		for _, name := range d.List() {
			s, _ := d.Read(name)
			n += len(name) + len(s)
		}
		return n
	}
	r := began(t)
	most := 0
	for i := range int64(40) {
		for _, line := range []string{"append a=x %d:1", "append ", "cut %[1]d", "delete a=x 0 %d", "cut %d", "compact", "retain %d"} {
			if strings.Contains(line, "%") {
				line = fmt.Sprintf(line, i+1000)
			}
			r.do(t, does(line))
		}
		if i == 0 {
			most = size(r.d)
		}
		if n := size(r.d); n > most {
			t.Fatalf("the disk has %d bytes, and had %d", n, most)
		}
	}
}

// 13.1: what others wrote in its files is no Store, and nothing panics.
func TestSpoilt(t *testing.T) {
	r := began(t, filling...)
	for _, spoilt := range r.d.List() {
		text, _ := r.d.Read(spoilt)
		for i := range len(text) {
			for _, bend := range []func(b []byte) []byte{func(b []byte) []byte { b[i] ^= 1; return b }, func(b []byte) []byte { b[i] = 255; return b }, func(b []byte) []byte { return b[:i] }} {
				d := &disk.Disk{}
				for _, name := range r.d.List() {
					s, _ := r.d.Read(name)
					if name == spoilt {
						s = string(bend([]byte(s)))
					}
					if d.Append(name, s) != nil {
						t.Fatal(name)
					}
				}
				if s, err := store.Open(d); err != nil && (s != nil || told(err) != told(api.ErrSpoilt)) {
					t.Fatalf("%s, spoilt at %d: %v, %v", spoilt, i, s, err)
				} else if err == nil {
					look(s)
				}
			}
		}
	}
}

// 13.1: nor are notes a Store's of which it never wrote one, or with something behind them, or with something missing.
func TestSpoiltNotes(t *testing.T) {
	r := began(t, filling...)
	_, right, _ := wal.Open(r.d)
	var lists [][]string
	for _, note := range []string{"", "a", strings.Repeat("\x00", 8), strings.Repeat("\xff", 80)} {
		lists = append(lists, []string{note}, append(slices.Clone(right), note))
	}
	for i, note := range right {
		for _, bent := range []string{note + "\x00", note + note, note[:len(note)-1], note[:8]} {
			l := slices.Clone(right)
			l[i] = bent
			lists = append(lists, l)
		}
	}
	for _, l := range lists {
		w, was, _ := wal.Open(r.d)
		if err := w.Set(l); err != nil {
			t.Fatal(err)
		}
		if s, err := store.Open(r.d); s != nil || told(err) != told(api.ErrSpoilt) {
			t.Errorf("Open of notes %q: %v, %v", l, s, err)
		}
		if err := w.Set(was); err != nil {
			t.Fatal(err)
		}
	}
	r.want(t, r.open(t), "it is not opened")
}

// 13.1, 13.4: the greatest notes and blocks: many labels of many letters, samples of many bits, as many as may be in the Head.
func TestGreat(t *testing.T) {
	r := began(t)
	var l []api.Series
	for i := range 60 {
		x := api.Series{}
		for j := range 8 {
			x.Labels = append(x.Labels, api.Label{Name: strings.Repeat("n", 23) + string(rune('a'+j)), Value: fmt.Sprintf("%024d", i)})
		}
		l = append(l, x)
	}
	for time := range int64(2) {
		for batch := range slices.Chunk(l, 40) {
			batch = slices.Clone(batch)
			for i := range batch {
				batch[i].Samples = []api.Sample{{Time: time*(1<<40) - time, Value: int64(least) + time*7}}
			}
			if err := r.s.Append(batch); err != nil {
				t.Fatal(err)
			}
		}
	}
	g := api.Gone{From: least, To: least}
	for _, one := range l[0].Labels {
		g.Match = append(g.Match, api.Matcher{Name: one.Name, Op: api.Begins, Value: one.Value})
	}
	for range 200 {
		if err := r.s.Delete(g); err != nil {
			t.Fatal(err)
		}
	}
	jumps := []api.Label{{Name: "a", Value: "jumps"}}
	wantText(t, "one more series", told(r.s.Append([]api.Series{{Labels: jumps, Samples: even(1, 1)}})), "error 12 at 0")
	if err := r.s.Delete(g); told(err) != "error 12" {
		t.Fatal(err)
	}
	was := all(t, r.s)
	for _, time := range []int64{-1, 0, 1 << 40} {
		if err := r.s.Cut(time); err != nil {
			t.Fatal(err)
		}
		r.s = opened(t, r.d)
		wantText(t, "behind Cut", all(t, r.s), was)
	}
	if err := r.s.Compact(); err != nil {
		t.Fatal(err)
	}
	wantText(t, "behind Compact", all(t, opened(t, r.d)), was)
}

// 13.1, 13.4: a Head with MaxSamples of a series, far from each other in time and value.
func TestGreatSeries(t *testing.T) {
	s, d := (*store.Store)(nil), &disk.Disk{}
	s = opened(t, d)
	rnd := drawn(1)
	var l []api.Sample
	for i := range int64(2000) {
		l = append(l, api.Sample{Time: i*500_000_000 + rnd.Int64N(499_999_999), Value: int64(rnd.Uint64())})
	}
	for part := range slices.Chunk(l, 40) {
		if err := s.Append([]api.Series{{Labels: named(1), Samples: part}}); err != nil {
			t.Fatal(err)
		}
	}
	was := all(t, s)
	for _, time := range []int64{-5, l[3].Time, l[1990].Time, 1 << 40} {
		if err := s.Cut(time); err != nil {
			t.Fatal(err)
		}
		s = opened(t, d)
		wantText(t, "behind Cut", all(t, s), was)
	}
	if err := s.Compact(); err != nil {
		t.Fatal(err)
	}
	wantText(t, "behind Compact", all(t, opened(t, d)), was)
}
