package wal_test

import (
	"math"
	"slices"
	"strconv"
	"strings"
	"testing"

	"raingauge/api"
	"raingauge/disk"
	"raingauge/wal"
)

// The heads of the chapter's functions.
var (
	_ func(*disk.Disk) (*wal.Wal, []string, error) = wal.Open
	_ func(*wal.Wal) bool                          = (*wal.Wal).Down
	_ func(*wal.Wal, string) error                 = (*wal.Wal).Add
	_ func(*wal.Wal, []string) error               = (*wal.Wal).Set
)

// keepings are how many bytes a Start keeps: none, few, each number up to what is noted here, all.
func keepings() []int {
	l := []int{math.MinInt, -1, 1000, math.MaxInt}
	for n := range 24 {
		l = append(l, n)
	}
	return l
}

// odd are notes of any bytes: empty ones, such as look like what may stand between notes, and great ones.
func odd() []string {
	l := []string{"", "\x00", "\x00\x00", "\x00\x05", "\x00\x01a", "\xff\xff", "\n", "\r\n", "\"", "\\", "a\nb", ";", ":", ",", "1:a", "3:", "4", "ä", "\xed\xa0\x80", "wal/", long(254), long(255), long(256), long(257), long(65), "", long(32767), long(32768), long(59999), long(60000), strings.Repeat("\x00", 60000), strings.Repeat("\xff", 60000)}
	for b := range 256 {
		l = append(l, string([]byte{byte(b)}), string([]byte{'x', byte(b), byte(b)}))
	}
	return l
}

// 7.1: Open: ErrMissing, if there is no disk, and nothing else.
func TestNoDisk(t *testing.T) {
	w, notes, err := wal.Open(nil)
	wantErr(t, "Open of no disk", err, api.ErrMissing)
	if w != nil || len(notes) > 0 {
		t.Errorf("Open of no disk tells %v, %q", w, notes)
	}
}

// 7.1: Open of an empty disk, of one with files of other names, and again of what was opened.
func TestOpen(t *testing.T) {
	d := &disk.Disk{}
	for range 3 {
		wantNotes(t, "Open of an empty disk", d)
	}
	for _, name := range others() {
		wantErr(t, name, d.Append(name, "\x00\x01a\x00\x01b"), api.OK)
		wantNotes(t, "Open beside "+name, d)
	}
	w := opened(t, d)
	wantErr(t, "Add", w.Add("one"), api.OK)
	wantErr(t, "Add", w.Add("two"), api.OK)
	for range 3 {
		wantNotes(t, "Open again", d, "one", "two")
	}
}

// others are names that don't begin with wal/.
func others() []string {
	return []string{"wal", "wa", "Wal/", "Wal/kept", "WAL/kept", "a", "a/wal/kept", " wal/kept", "/wal/kept", "xwal/kept", "kept", "fresh", "wal.kept", "walkept", "wam/", "block/0", "~", "\x00", long(60)}
}

// 7.1: files whose names don't begin with wal/ are left as they are, whatever is done; and those of a Wal do begin so.
func TestOtherFiles(t *testing.T) {
	for cut := -1; cut < 12; cut++ {
		d := &disk.Disk{}
		for _, name := range others() {
			wantErr(t, name, d.Append(name, name+name), api.OK)
			wantErr(t, name, d.Sync(name), api.OK)
			wantErr(t, name, d.Append(name, "more"), api.OK)
		}
		d.Cut(cut)
		if w, _, err := wal.Open(d); err == nil {
			_, _, _ = w.Add("note"), w.Set([]string{"a", "b"}), w.Add("more")
			_, _, _ = wal.Open(d)
			_ = w.Set(nil)
		}
		want := slices.Clone(others())
		slices.Sort(want)
		got := slices.DeleteFunc(d.List(), func(name string) bool { return strings.HasPrefix(name, "wal/") })
		if !slices.Equal(got, want) {
			t.Fatalf("the other files are %q, not %q", got, want)
		}
		same := func(more string) {
			t.Helper()
			for _, name := range want {
				if s, _ := d.Read(name); s != name+name+more {
					t.Errorf("%q became %q", name, s)
				}
			}
		}
		same("more")
		d.Start(0) // nor is more of them SAFE than was
		same("")
	}
}

// 7.1: the notes, in order: none, one, many, the empty one, notes of any bytes; by Add and by Set.
func TestNotes(t *testing.T) {
	lists := [][]string{nil, {""}, {"a"}, {"", ""}, {"a", ""}, {"", "a"}, {"b", "a"}, {"a", "a", "a"}, {"note", "a", "", "q"}, odd()}
	for _, note := range odd() {
		lists = append(lists, []string{note}, []string{note, "q"}, []string{"q", note})
	}
	for _, l := range lists {
		d, e := &disk.Disk{}, &disk.Disk{}
		w := opened(t, d)
		for _, note := range l {
			wantErr(t, "Add", w.Add(note), api.OK)
		}
		wantErr(t, "Set", opened(t, e).Set(l), api.OK)
		for _, keeps := range []int{-1, 0, 1, 9} {
			wantNotes(t, "by Add", d, l...)
			wantNotes(t, "by Set", e, l...)
			d.Start(keeps)
			e.Start(keeps)
		}
	}
}

// 7.1: a note is behind all others, also of many, and behind Opens.
func TestMany(t *testing.T) {
	d := &disk.Disk{}
	w := opened(t, d)
	var want []string
	for i := range 20000 {
		note := strconv.Itoa(i)
		want = append(want, note)
		if err := w.Add(note); err != nil {
			t.Fatal(err)
		}
		if i%2500 == 0 {
			wantNotes(t, "Open between", d, want...)
			w = opened(t, d)
		}
	}
	wantNotes(t, "many", d, want...)
	wantErr(t, "Set of many", w.Set(append(want, want...)), api.OK)
	wantNotes(t, "twice as many", d, append(want, want...)...)
}

// 7.1: Add of 0, 1, 60000 and 60001 bytes: they are counted as bytes.
func TestAddLength(t *testing.T) {
	for note, want := range map[string]api.Errno{
		"": api.OK, "a": api.OK, long(59999): api.OK, long(60000): api.OK, strings.Repeat("ä", 30000): api.OK, strings.Repeat("\xff", 60000): api.OK,
		long(60001): api.ErrArg, long(60002): api.ErrArg, strings.Repeat("ä", 30001): api.ErrArg, long(65535): api.ErrArg, long(65536): api.ErrArg, long(65537): api.ErrArg, long(200000): api.ErrArg,
	} {
		d := &disk.Disk{}
		w := opened(t, d)
		wantErr(t, "Add", w.Add("first"), api.OK)
		wantErr(t, "Add of "+strconv.Itoa(len(note)), w.Add(note), want)
		if w.Down() {
			t.Error("it is Down")
		}
		wantErr(t, "Add", w.Add("last"), api.OK)
		if want == api.OK {
			wantNotes(t, "behind Add", d, "first", note, "last")
		} else {
			wantNotes(t, "behind ErrArg", d, "first", "last")
		}
	}
}

// 7.1: Set of notes of which one has more than 60000 bytes, wherever it stands.
func TestSetLength(t *testing.T) {
	for _, l := range [][]string{{long(60000)}, {"a", long(60000)}, {long(60000), "a"}, {long(60000), long(60000), ""}, {"", "", strings.Repeat("ä", 30000)}} {
		d := &disk.Disk{}
		wantErr(t, "Set", opened(t, d).Set(l), api.OK)
		wantNotes(t, "behind Set", d, l...)
	}
	for _, l := range [][]string{{long(60001)}, {"a", long(60001)}, {long(60001), "a"}, {"a", long(60001), "b"}, {long(60000), long(60001)}, {strings.Repeat("ä", 30001)}, {"", long(65536)}, {"x", long(131072), "y"}} {
		for _, first := range [][]string{nil, {"first"}} {
			d := &disk.Disk{}
			w := opened(t, d)
			wantErr(t, "Set", w.Set(first), api.OK)
			wantErr(t, "Set of too long a note", w.Set(l), api.ErrArg)
			if w.Down() {
				t.Error("it is Down")
			}
			wantNotes(t, "behind ErrArg", d, first...)
			wantErr(t, "Add", w.Add("last"), api.OK)
			wantNotes(t, "behind ErrArg and Add", d, append(slices.Clone(first), "last")...)
		}
	}
}

// 7.1: Set ahead of and behind Add: the notes are just those.
func TestSet(t *testing.T) {
	for _, c := range []struct {
		ops  []op
		want []string
	}{
		{[]op{set()}, nil}, {[]op{set("a")}, []string{"a"}}, {[]op{set(), set()}, nil}, {[]op{set("a"), set()}, nil}, {[]op{set(), set("a")}, []string{"a"}}, {[]op{set("a"), set("a")}, []string{"a"}},
		{[]op{add("a"), set()}, nil}, {[]op{set(), add("a")}, []string{"a"}}, {[]op{set("a"), add("b")}, []string{"a", "b"}}, {[]op{add("b"), set("a")}, []string{"a"}},
		{[]op{set("a", "b", "c"), set("b")}, []string{"b"}}, {[]op{set("b"), set("c", "b", "a")}, []string{"c", "b", "a"}},
		{[]op{add("a"), add("b"), set("c"), add("d"), add("")}, []string{"c", "d", ""}}, {[]op{add("a"), set("a", "a"), add("a")}, []string{"a", "a", "a"}},
		{[]op{set("a", "b"), add("c"), set("c"), add("d"), set(), add("e"), add("f")}, []string{"e", "f"}},
	} {
		for _, keeps := range []int{0, 1, 9} {
			r := began(t, c.ops...)
			wantNotes(t, "behind Set and Add", r.d, c.want...)
			r.start(t, keeps)
			wantNotes(t, "behind Start", r.d, c.want...)
		}
	}
}

// 7.1: ErrArg is told ahead of ErrState and ErrDevice, ErrState ahead of ErrDevice; what tells ErrArg or ErrState changes nothing, also no file, and takes no change of Cut's.
func TestWhichError(t *testing.T) {
	tooLong := []op{add(long(60001)), set(long(60001)), set("a", long(60001)), set(long(60001), "a")}
	right := []op{add(""), add("a"), add(long(60000)), set(), set("a"), set(long(60000), "a")}
	for _, cut := range []int{-1, 0, 1} {
		for _, o := range tooLong {
			r := began(t, add("first"), set("x", "y"), add("z"))
			r.d.Cut(cut)
			was := files(r.d)
			for range 3 {
				wantErr(t, "too long", o.do(r.w), api.ErrArg)
			}
			if r.w.Down() || files(r.d) != was || r.d.On() != (cut != 0) {
				t.Error("ErrArg changed something")
			}
			r.start(t, 0)
		}
	}
	for _, fail := range right {
		for _, power := range []int{0, 1, 5, -1} {
			r := began(t, add("first"), set("x", "y"), add("z"))
			r.cut(0)
			wantErr(t, "without power", r.do(t, fail), api.ErrDevice)
			r.cut(power)
			was := files(r.d)
			for _, o := range tooLong {
				wantErr(t, "too long, and Down", o.do(r.w), api.ErrArg)
			}
			for _, o := range right {
				wantErr(t, "Down", o.do(r.w), api.ErrState)
			}
			if !r.w.Down() || files(r.d) != was || r.d.On() != (power != 0) {
				t.Error("ErrState changed something")
			}
			r.start(t, 0)
		}
	}
}

// files is all that a disk has.
func files(d *disk.Disk) string {
	var b strings.Builder
	for _, name := range d.List() {
		s, _ := d.Read(name)
		b.WriteString(strconv.Quote(name) + "=" + strconv.Quote(s) + " ")
	}
	return b.String()
}

// 7.1: ErrDevice makes it Down, and it stays so, with power, behind a Start, and beside one that is opened anew, which is not.
func TestDown(t *testing.T) {
	for _, o := range []op{add("a"), set(), set("a", "b")} {
		for cut := range 6 {
			d := &disk.Disk{}
			w := opened(t, d)
			wantErr(t, "Add", w.Add("first"), api.OK)
			if w.Down() {
				t.Error("it is Down")
			}
			d.Cut(cut)
			err := o.do(w)
			if err == nil {
				if cut == 0 || w.Down() {
					t.Errorf("cut %d: no error, Down is %v", cut, w.Down())
				}
				continue
			}
			wantErr(t, "the power went off", err, api.ErrDevice)
			for _, power := range []func(){func() {}, func() { d.Cut(-1) }, func() { d.Cut(0) }, func() { d.Start(0) }, func() { d.Cut(3) }} {
				power()
				wantErr(t, "Add of one that is Down", w.Add("x"), api.ErrState)
				wantErr(t, "Set of one that is Down", w.Set(nil), api.ErrState)
				if !w.Down() {
					t.Error("it is not Down any more")
				}
			}
			d.Start(0)
			again := opened(t, d)
			if again.Down() || !w.Down() {
				t.Error("Down of the new one, or of the old one")
			}
			wantErr(t, "Set of the new one", again.Set([]string{"new"}), api.OK)
			wantErr(t, "Add of the old one", w.Add("x"), api.ErrState)
			wantNotes(t, "of the new one", d, "new")
		}
	}
}

// 7.1: Open without power: where nothing is noted, or nothing is to be written, it may tell the notes or ErrDevice; what it tells holds.
func TestOpenWithoutPower(t *testing.T) {
	for _, ops := range [][]op{nil, {add("a")}, {set()}, {set("a", "b")}, {set("a"), add("b")}} {
		for _, keeps := range []int{-1, 0, 1, 100} {
			r := began(t, ops...)
			r.cut(0)
			for range 3 {
				_ = r.open(t)
			}
			r.start(t, keeps)
		}
	}
}

// 7.1: a note that is torn must go, which needs power: as long as that goes off, Open tells ErrDevice, and nothing else changes.
func TestOpenOfTorn(t *testing.T) {
	for keeps := 1; keeps < 7; keeps++ { // of what Add of abcdefg wrote, not all
		for cut := range 8 {
			for _, then := range []int{0, 1, 3, 100} {
				r := began(t, set("first", "second"))
				r.cut(1)
				wantErr(t, "Add", r.do(t, add("abcdefg")), api.ErrDevice)
				r.d.Start(keeps)
				r.cut(cut)
				err := r.open(t)
				if cut == 0 {
					wantErr(t, "Open of what is torn", err, api.ErrDevice)
				}
				if err == nil {
					_ = r.do(t, add("third"))
				}
				r.start(t, then)
				r.want(t, slices.Equal(r.m.sure[:2], []string{"first", "second"}) && !slices.Contains(r.m.sure, "abcdefg"), r.m.sure)
				wantErr(t, "Add", r.do(t, add("last")), api.OK)
				r.start(t, 0)
			}
		}
	}
}

// 7.1: what Open told without an error holds: also where power came back by Cut alone, with a note that is not SAFE.
func TestOpenMakesSafe(t *testing.T) {
	for _, o := range []op{add("abc"), add(""), set(), set("abc"), set("p", "q", "r")} {
		for _, first := range [][]op{nil, {add("first")}, {set("x", "y"), add("z")}} {
			for cut := range 6 {
				for _, power := range []int{-1, 0, 1, 2, 3} {
					for _, keeps := range []int{-1, 0, 1, 2, 3, 100} {
						r := began(t, first...)
						r.cut(cut)
						_ = r.do(t, o)
						r.cut(power)
						_ = r.open(t)
						_ = r.open(t)
						r.start(t, keeps)
						r.start(t, 0)
					}
				}
			}
		}
	}
}

// firsts are what was done ahead, fails are ops during which the power goes off.
func firsts() [][]op {
	return [][]op{nil, {add("first")}, {add("")}, {set()}, {set("x", "y")}, {add("p"), set("x", "y"), add("z"), add("")}}
}

func fails() []op {
	return []op{add(""), add("a"), add("note"), add("\x00\x05"), add("\x00\x00\x00\x00"), add(long(300)), set(), set(""), set("a"), set("first"), set("a", "bc", "", "def")}
}

// 7.1: wherever the power goes off during Add and Set, and whatever a Start keeps, there are just the notes of before, or those behind it; and what is done then is done.
func TestPower(t *testing.T) {
	for _, first := range firsts() {
		for _, o := range fails() {
			done := false
			for cut := 0; !done; cut++ {
				for _, keeps := range keepings() {
					r := began(t, first...)
					r.cut(cut)
					done = r.do(t, o) == nil
					r.start(t, keeps)
					wantErr(t, "Add", r.do(t, add("more")), api.OK)
					r.start(t, 0)
					wantErr(t, "Set", r.do(t, set("all", "new")), api.OK)
					wantErr(t, "Add", r.do(t, add("last")), api.OK)
					r.start(t, 0)
				}
				if cut > 50 {
					t.Fatal("it is never done")
				}
			}
		}
	}
}

// 7.1: both ends are met: an Add whose bytes are all lost is not there, one that is whole is.
func TestBothEnds(t *testing.T) {
	for keeps, want := range map[int][]string{0: {"first"}, 1: {"first"}, 1000: {"first", "note"}} {
		r := began(t, add("first"))
		r.cut(1)
		wantErr(t, "Add", r.do(t, add("note")), api.ErrDevice)
		r.d.Start(keeps)
		wantNotes(t, "behind Start "+strconv.Itoa(keeps), r.d, want...)
	}
}

// 7.1: the same with the power going off once more, also while the Wal is opened anew.
func TestPowerTwice(t *testing.T) {
	for _, first := range firsts() {
		for _, o := range fails() {
			for _, next := range []op{add("nx"), set("nx", "ny"), set()} {
				for cut := range 5 {
					for again := range 9 {
						for _, keeps := range []int{0, 1, 2, 3, 4, 7, 1000} {
							r := began(t, first...)
							r.cut(cut)
							_ = r.do(t, o)
							r.d.Start(keeps)
							r.cut(again)
							if r.open(t) == nil {
								_ = r.do(t, next)
							}
							r.start(t, (keeps+again)%5)
							wantErr(t, "Add", r.do(t, add("more")), api.OK)
							r.start(t, 0)
						}
					}
				}
			}
		}
	}
}

// 7.1: any Adds, Sets, Opens, ends of the power and Starts.
func TestAny(t *testing.T) {
	rnd := drawn(1)
	notes := []string{"", "a", "note", "\x00\x05", "\x00\x00\x00", "\xff\xff", long(300), long(60000), long(60001)}
	pick := func() string { return notes[min(rnd.IntN(40), rnd.IntN(len(notes)))] }
	for range 4000 {
		r := began(t)
		for range 30 {
			switch rnd.IntN(9) {
			case 0, 1, 2:
				_ = r.do(t, add(pick()))
			case 3, 4:
				o := set()
				for range rnd.IntN(4) {
					o.notes = append(o.notes, pick())
				}
				_ = r.do(t, o)
			case 5, 6:
				r.cut(rnd.IntN(7) - 1)
			case 7:
				_ = r.open(t)
			default:
				r.start(t, []int{-1, 0, 1, 2, 3, 5, 400, math.MaxInt}[rnd.IntN(8)])
			}
		}
		r.start(t, 0)
	}
}

// P4: what Open told, and what was given to Set, changed by the caller, changes no later answer; nor does a change alter what was told.
func TestFresh(t *testing.T) {
	d := &disk.Disk{}
	w := opened(t, d)
	l := append(make([]string, 0, 9), "a", "b", "c")
	given := append(l, "behind")
	wantErr(t, "Set", w.Set(l), api.OK)
	if !slices.Equal(given, []string{"a", "b", "c", "behind"}) {
		t.Errorf("what was given became %q", given)
	}
	for i := range given {
		given[i] = "changed"
	}
	wantNotes(t, "behind the caller's change", d, "a", "b", "c")
	wantErr(t, "Add", w.Add("d"), api.OK)
	_, first, _ := wal.Open(d)
	_, second, _ := wal.Open(d)
	for i := range first[:cap(first)] {
		first[:cap(first)][i] = "changed"
	}
	wantNotes(t, "behind the caller's change", d, "a", "b", "c", "d")
	wantErr(t, "Set", w.Set([]string{"z", "y"}), api.OK)
	wantErr(t, "Add", w.Add("x"), api.OK)
	if !slices.Equal(second, []string{"a", "b", "c", "d"}) {
		t.Errorf("what Open told became %q", second)
	}
	wantNotes(t, "behind the changes", d, "z", "y", "x")
}

// P4: what a Wal tells hangs on its own disk alone.
func TestApart(t *testing.T) {
	d, e := &disk.Disk{}, &disk.Disk{}
	w, v := opened(t, d), opened(t, e)
	wantErr(t, "Add", w.Add("one"), api.OK)
	wantErr(t, "Add", v.Add("other"), api.OK)
	e.Cut(0)
	wantErr(t, "Add", v.Add("x"), api.ErrDevice)
	wantErr(t, "Add", w.Add("two"), api.OK)
	if w.Down() || !v.Down() {
		t.Error("Down of the one, or of the other")
	}
	e.Start(0)
	wantNotes(t, "the one", d, "one", "two")
	wantNotes(t, "the other one", e, "other")
}

// What is no note any more takes no room: many Sets leave no more than the last one needs, and one that failed nothing behind the next Open.
func TestRoom(t *testing.T) {
	d := &disk.Disk{}
	for i := range 200 {
		w := opened(t, d)
		wantErr(t, "Set", w.Set([]string{long(1000), "a"}), api.OK)
		wantErr(t, "Add", w.Add(long(1000)), api.OK)
		d.Cut(i % 5)
		_ = w.Set([]string{long(3000)})
		d.Start(i)
	}
	wantErr(t, "Set", opened(t, d).Set([]string{"a", "b"}), api.OK)
	wantRoom(t, "behind many Sets", d)
	for cut := range 3 {
		w := opened(t, d)
		d.Cut(cut)
		wantErr(t, "Set", w.Set([]string{long(3000)}), api.ErrDevice)
		d.Start(3000)
		wantNotes(t, "behind a Set that failed", d, "a", "b")
		wantRoom(t, "behind a Set that failed", d)
	}
}

// wantRoom holds the room that two short notes take against some bytes for each.
func wantRoom(t *testing.T, what string, d *disk.Disk) {
	t.Helper()
	if n := len(files(d)); n > 200 {
		t.Errorf("%s: two short notes take %d bytes", what, n)
	}
}

// P1: no Wal is Down, and none of its calls panics; nor does one that Open did not make.
func TestNone(t *testing.T) {
	var w *wal.Wal
	if !w.Down() {
		t.Error("no Wal is not Down")
	}
	wantErr(t, "Add", w.Add("a"), api.ErrState)
	wantErr(t, "Add", w.Add(long(60001)), api.ErrArg)
	wantErr(t, "Set", w.Set(nil), api.ErrState)
	wantErr(t, "Set", w.Set([]string{long(60001)}), api.ErrArg)
	for _, o := range []op{add("a"), set(), set("a")} {
		var zero wal.Wal
		wantErr(t, "of no disk", o.do(&zero), api.ErrDevice)
		wantErr(t, "of no disk", o.do(&zero), api.ErrState)
		if !zero.Down() {
			t.Error("it is not Down")
		}
	}
}
