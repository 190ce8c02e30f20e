package disk_test

import (
	"math"
	"slices"
	"strconv"
	"strings"
	"testing"

	"raingauge/api"
	"raingauge/disk"
)

// The heads of the chapter's functions.
var (
	_ func(*disk.Disk, int)                     = (*disk.Disk).Cut
	_ func(*disk.Disk) bool                     = (*disk.Disk).On
	_ func(_ *disk.Disk, file, s string) error  = (*disk.Disk).Append
	_ func(*disk.Disk, string) error            = (*disk.Disk).Sync
	_ func(_ *disk.Disk, file, to string) error = (*disk.Disk).Move
	_ func(*disk.Disk, string) error            = (*disk.Disk).Remove
	_ func(*disk.Disk, string) (string, error)  = (*disk.Disk).Read
	_ func(*disk.Disk) []string                 = (*disk.Disk).List
	_ func(*disk.Disk, int)                     = (*disk.Disk).Start
)

// long is a name of so many bytes.
func long(n int) string { return strings.Repeat("n", n) }

// rightNames may be a file's, wrongNames may not: bytes are counted, not letters.
func rightNames() []string {
	return []string{"a", " ", "/", ".", "\x00", "\xff", "ä", "wal/0", "a\nb", long(2), long(59), long(60), strings.Repeat("ä", 30), strings.Repeat("\xff", 60), strings.Repeat("\x00", 60)}
}

func wrongNames() []string {
	return []string{"", long(61), long(62), long(1000), strings.Repeat("ä", 31), strings.Repeat("\x00", 61)}
}

// 6.1: the zero value has no files, and power.
func TestZero(t *testing.T) {
	var d disk.Disk
	wantState(t, "the zero value", &d, "on")
	for _, name := range append(rightNames(), wrongNames()...) {
		s, err := d.Read(name)
		wantErr(t, "Read", err, api.ErrMissing)
		if s != "" {
			t.Errorf("Read of what is missing tells %q", s)
		}
		wantErr(t, "Sync", d.Sync(name), api.ErrMissing)
		wantErr(t, "Remove", d.Remove(name), api.ErrMissing)
		wantErr(t, "Move", d.Move(name, "a"), api.ErrMissing)
	}
	for _, keeps := range []int{-1, 0, 1, 9} {
		d.Start(keeps)
		wantState(t, "Start of no files", &d, "on")
	}
	wantErr(t, "Append", d.Append("a", "x"), api.OK)
	wantState(t, "the first file", &d, "a=x on")
}

// 6.1: Cut of numbers below 0: the power stays on.
func TestCutBelow0(t *testing.T) {
	for _, changes := range []int{-1, -2, math.MinInt} {
		for _, ahead := range []string{"", "cut 1", "cut 5", "append a; cut 3; append a"} {
			d := after(t, ahead)
			d.Cut(changes)
			for range 100 {
				if !d.On() {
					t.Fatal("there is no power")
				}
				wantErr(t, "Append", d.Append("a", "x"), api.OK)
				wantErr(t, "Sync", d.Sync("a"), api.OK)
				wantErr(t, "Move", d.Move("a", "b"), api.OK)
				wantErr(t, "Remove", d.Remove("b"), api.OK)
			}
			wantState(t, "behind many changes", d, "on")
		}
	}
}

// 6.1: Cut of 0, of 1, of many: each kind of change takes one of them; On before and behind the last one.
func TestCut(t *testing.T) {
	row := []string{"append a y", "sync a", "move a b", "append b", "move b b", "sync b", "move b a", "append c z", "remove c"}
	for _, changes := range []int{0, 1, 2, 3, 9, 10, 100} {
		d := after(t, "append a x")
		d.Cut(changes)
		for done := range changes {
			if !d.On() {
				t.Fatalf("Cut(%d): behind %d changes there is no power", changes, done)
			}
			line := row[done%len(row)]
			wantErr(t, line, did(d, line), api.OK)
		}
		for range 3 {
			if d.On() {
				t.Fatalf("Cut(%d): behind all of them there is power", changes)
			}
			wantErr(t, "behind the last change", d.Append("a", "z"), api.ErrDevice)
		}
	}
	d := after(t, "append a x")
	d.Cut(math.MaxInt)
	wantErr(t, "Append", d.Append("a", "y"), api.OK)
	wantState(t, "Cut of the greatest number", d, "a=xy on")
}

// 6.1: of several Cuts the last one holds, ahead of the power's end and behind it.
func TestCutAgain(t *testing.T) {
	for _, c := range []struct{ lines, want string }{
		{"cut 0", "off"}, {"cut 1", "on"}, {"cut 1; append a x", "a=x off"}, {"cut 2; append a x", "a=x on"}, {"append a x; cut 0", "a=x off"},
		{"cut 5; cut 0", "off"}, {"cut 5; append a x; cut 0", "a=x off"}, {"cut 1; cut 2; append a x", "a=x on"}, {"cut 1; cut 2; append a x; append a y", "a=xy off"},
		{"cut 2; append a x; cut 2; append a y", "a=xy on"}, {"cut 2; append a x; cut 2; append a y; sync a", "a=xy off"},
		{"cut 9; cut 1; append a x", "a=x off"}, {"cut 1; cut -1; append a x; append a y", "a=xy on"}, {"cut -1; cut 1; append a x", "a=x off"}, {"cut -5; append a x; cut 0", "a=x off"},
		// the power is off: Cut still tells behind how many changes more it is to be so
		{"cut 0; cut 1", "on"}, {"cut 0; cut 1; append a x", "a=x off"}, {"cut 1; append a x; cut 1; append a y", "a=xy off"}, {"cut 0; cut -1; append a x; append a y", "a=xy on"}, {"cut 0; cut 0", "off"},
	} {
		wantState(t, c.lines, after(t, c.lines), c.want)
	}
}

// 6.1: Append of names that may be, and of those that may not, to a new file and to one that is there.
func TestAppendNames(t *testing.T) {
	for _, name := range rightNames() {
		d := &disk.Disk{}
		for _, c := range []struct{ s, want string }{{"xy", "xy"}, {"z", "xyz"}, {"", "xyz"}, {"\x00\xff", "xyz\x00\xff"}, {"xyz", "xyz\x00\xffxyz"}} {
			wantErr(t, "Append", d.Append(name, c.s), api.OK)
			if got, err := d.Read(name); got != c.want || err != nil {
				t.Errorf("%q is %q, %v, not %q", name, got, err, c.want)
			}
		}
		if !slices.Equal(d.List(), []string{name}) {
			t.Errorf("List is %q, not %q", d.List(), name)
		}
	}
	for _, name := range wrongNames() {
		for _, lines := range []string{"", "append a x"} {
			d := after(t, lines)
			was := state(t, d)
			for _, s := range []string{"", "x"} {
				wantErr(t, "Append of a wrong name", d.Append(name, s), api.ErrArg)
				wantState(t, "Append of a wrong name", d, was)
			}
		}
	}
}

// 6.1: Append of the empty text makes a file, too, and is a change.
func TestAppendNothing(t *testing.T) {
	for _, c := range []struct{ lines, want string }{
		{"append a", "a= on"}, {"append a; append a", "a= on"}, {"append a; append a x", "a=x on"}, {"append a x; append a", "a=x on"},
		{"cut 1; append a", "a= off"}, {"append a x; cut 1; append a", "a=x off"}, {"append a x; sync a; cut 2; append a; append a", "a=x off"},
		{"append a x; append b; append a y; append b z", "a=xy b=z on"},
	} {
		wantState(t, c.lines, after(t, c.lines), c.want)
	}
}

// 6.1: a file grows by many texts, and what was read of it stays as it was.
func TestGrows(t *testing.T) {
	d := after(t, "append a first")
	first, _ := d.Read("a")
	var want strings.Builder
	want.WriteString("first")
	for i := range 100_000 {
		s := strconv.Itoa(i)
		want.WriteString(s)
		if err := d.Append("a", s); err != nil {
			t.Fatal(err)
		}
	}
	if got, _ := d.Read("a"); got != want.String() || first != "first" {
		t.Error("a file is not all that it was given")
	}
}

// 6.1: Sync, Move, Remove and Read of what is missing: never there, removed, or moved; nothing is changed.
func TestMissing(t *testing.T) {
	for _, lines := range []string{"append b y", "append b y; append a x; remove a", "append a y; move a b", "append b y; append a x; cut 9; start 0; append b y", "append A x; append ab x; append b y"} {
		for _, name := range []string{"a", "", "c", long(60), long(61), "a ", "b/", "B"} {
			d := after(t, lines)
			was := state(t, d)
			wantErr(t, "Sync", d.Sync(name), api.ErrMissing)
			wantErr(t, "Remove", d.Remove(name), api.ErrMissing)
			for _, to := range []string{"b", "c", "a", long(60)} {
				wantErr(t, "Move", d.Move(name, to), api.ErrMissing)
			}
			s, err := d.Read(name)
			wantErr(t, "Read", err, api.ErrMissing)
			if s != "" {
				t.Errorf("Read of what is missing tells %q", s)
			}
			wantState(t, lines, d, was)
		}
	}
}

// 6.1: Sync makes all of a file SAFE, and nothing of another one; with nothing new it is a change all the same.
func TestSync(t *testing.T) {
	for _, c := range []struct{ lines, want string }{
		{"append a xy; sync a; start 0", "a=xy on"}, {"append a xy; sync a; sync a; start 0", "a=xy on"}, {"append a xy; sync a; append a z; sync a; start 0", "a=xyz on"},
		{"append a xy; append b z; sync a; start 0", "a=xy on"}, {"append a xy; append b z; sync b; start 0", "b=z on"}, {"append a; sync a; start 0", "a= on"},
		{"append a xy; sync a; append a z; start 0", "a=xy on"}, {"append a xy; sync a; append a; start 0", "a=xy on"},
		{"append a xy; sync a; cut 1; sync a", "a=xy off"}, {"append a xy; sync a; cut 2; sync a; sync a; start 0", "a=xy on"},
	} {
		wantState(t, c.lines, after(t, c.lines), c.want)
	}
}

// 6.1: Move to names that may be, and to those that may not.
func TestMoveNames(t *testing.T) {
	for _, to := range rightNames() {
		d := after(t, "append from xy; sync from; append from z")
		wantErr(t, "Move", d.Move("from", to), api.OK)
		wantState(t, "Move", d, to+"=xyz on")
		wantErr(t, "Move back", d.Move(to, "from"), api.OK)
		wantState(t, "Move back", d, "from=xyz on")
	}
	for _, to := range wrongNames() {
		d := after(t, "append a xy; sync a; append a z; append b q")
		wantErr(t, "Move to a wrong name", d.Move("a", to), api.ErrArg)
		wantState(t, "Move to a wrong name", d, "a=xyz b=q on")
	}
}

// 6.1: Move to a new name, to one that another file has, and to its own; the others stay.
func TestMove(t *testing.T) {
	for _, c := range []struct{ lines, want string }{
		{"append a x; move a b", "b=x on"}, {"append a x; append c z; move a b", "b=x c=z on"}, {"append a x; append b y; move a b", "b=x on"}, {"append a x; append b y; move b a", "a=y on"},
		{"append a x; append b yyy; append c z; move a b", "b=x c=z on"}, {"append a; append b y; move a b", "b= on"}, {"append a x; move a a", "a=x on"}, {"append a; move a a", "a= on"},
		{"append a x; move a b; move b c; move c a", "a=x on"}, {"append a x; append b y; move a c; move b a; move c b", "a=y b=x on"},
		{"append a x; move a b; append a y", "a=y b=x on"}, {"append a x; append b y; move a b; append b z; append a q", "a=q b=xz on"}, {"append a x; move a a; append a y", "a=xy on"},
		{"append a x; cut 1; move a b", "b=x off"}, {"append a x; cut 1; move a a", "a=x off"}, {"append a x; append b y; cut 1; move a b", "b=x off"},
	} {
		wantState(t, c.lines, after(t, c.lines), c.want)
	}
}

// stage is how a file was made, and what Start leaves of it, by keeps; - is gone.
type stage struct{ lines, below, none, one, two, all string }

func (s stage) left() map[int]string {
	return map[int]string{math.MinInt: s.below, -2: s.below, -1: s.below, 0: s.none, 1: s.one, 2: s.two, 7: s.all, 1000: s.all, math.MaxInt: s.all}
}

// stages are files F that are wholly SAFE, SAFE in part, never made SAFE, and made SAFE while they were empty.
func stages() []stage {
	return []stage{
		{"append F xyz; sync F", "xyz", "xyz", "xyz", "xyz", "xyz"},
		{"append F xyz; sync F; append F", "xyz", "xyz", "xyz", "xyz", "xyz"},
		{"append F xyz; sync F; append F pqrs", "xyz", "xyz", "xyzp", "xyzpq", "xyzpqrs"},
		{"append F x; sync F; append F y; append F z", "x", "x", "xy", "xyz", "xyz"},
		{"append F x; sync F; append F yz; sync F; append F q", "xyz", "xyz", "xyzq", "xyzq", "xyzq"},
		{"append F xyz", "-", "-", "x", "xy", "xyz"},
		{"append F x", "-", "-", "x", "x", "x"},
		{"append F", "-", "-", "", "", ""},
		{"append F; sync F", "", "", "", "", ""},
		{"append F; sync F; append F xyz", "", "", "x", "xy", "xyz"},
		{"append F xyz; start 1", "x", "x", "x", "x", "x"},
		{"append F xyz; start 2; append F pq", "xy", "xy", "xyp", "xypq", "xypq"},
		{"append F; start 1", "", "", "", "", ""},
		{"append F; start 1; append F xyz", "", "", "x", "xy", "xyz"},
		{"append F; sync F; start 0; append F xyz", "", "", "x", "xy", "xyz"},
		{"append F xyz; start 0; append F pq", "-", "-", "p", "pq", "pq"},
		{"append F xyz; sync F; remove F; append F pq", "-", "-", "p", "pq", "pq"},
		{"append F xyz; sync F; remove F; append F", "-", "-", "", "", ""},
		{"append F xyz; sync F; remove F; append F pq; sync F; append F r", "pq", "pq", "pqr", "pqr", "pqr"},
	}
}

func of(name string, s stage) string { return strings.ReplaceAll(s.lines, "F", name) }

// word is a file as state tells it, ahead of what is behind it.
func word(name, text string) string {
	if text == "-" {
		return ""
	}
	return name + "=" + text + " "
}

// 6.2: of each file what is SAFE stays, and the next bytes; one that was never made SAFE is gone, if keeps is below 1; with and without power ahead of it.
func TestStart(t *testing.T) {
	for _, s := range stages() {
		for keeps, left := range s.left() {
			for _, cut := range []string{"", "; cut -1", "; cut 0", "; cut 1", "; cut 9"} {
				d := after(t, of("a", s)+cut)
				d.Start(keeps)
				wantState(t, s.lines+cut+"; start "+strconv.Itoa(keeps), d, word("a", left)+"on")
			}
		}
	}
}

// 6.2: each file by itself: keeps is told of each anew.
func TestStartOfMany(t *testing.T) {
	l := stages()
	for keeps := range l[0].left() {
		lines, want := "", ""
		for i, s := range l {
			if !strings.Contains(s.lines, "start") { // it would be the others', too
				name := string(rune('a' + i))
				lines, want = lines+of(name, s)+";", want+word(name, s.left()[keeps])
			}
		}
		d := after(t, lines)
		d.Start(keeps)
		wantState(t, "start "+strconv.Itoa(keeps), d, want+"on")
	}
}

// 6.2: behind Start all is SAFE, and the power is on, and stays so.
func TestBehindStart(t *testing.T) {
	for _, s := range stages() {
		for keeps, left := range s.left() {
			for again := range s.left() {
				d := after(t, of("a", s)+"; cut 0")
				d.Start(keeps)
				d.Start(again)
				wantState(t, s.lines+": Start twice", d, word("a", left)+"on")
			}
			for _, cut := range []string{"cut 0", "cut 1", "cut 2"} {
				d := after(t, of("a", s)+";"+cut)
				d.Start(keeps)
				for range 20 {
					wantErr(t, "Append", d.Append("b", ""), api.OK)
					wantErr(t, "Remove", d.Remove("b"), api.OK)
				}
				wantState(t, s.lines+": many changes behind Start", d, word("a", left)+"on")
				d.Cut(0)
				wantState(t, s.lines+": Cut behind Start", d, word("a", left)+"off")
			}
		}
	}
}

// 6.1: as much of a file that was moved is SAFE as was, whatever stood in its place; and a file by its old name has nothing of it.
func TestMoveSafe(t *testing.T) {
	for _, s := range stages() {
		for keeps, left := range s.left() {
			start := "; start " + strconv.Itoa(keeps)
			for _, moves := range []string{"move a b", "move a b; move b c; move c b", "move a a; move a b", "move a b; move b b"} {
				wantState(t, s.lines+moves+start, after(t, of("a", s)+";"+moves+start), word("b", left)+"on")
			}
			wantState(t, s.lines+start, after(t, of("a", s)+"; move a a"+start), word("a", left)+"on")
			for _, other := range stages() {
				if strings.Contains(other.lines+s.lines, "start") {
					continue
				}
				lines := of("a", s) + ";" + of("b", other) + "; move a b"
				wantState(t, lines+start, after(t, lines+start), word("b", left)+"on")
				lines += ";" + of("a", other)
				wantState(t, lines+start, after(t, lines+start), word("a", other.left()[keeps])+word("b", left)+"on")
			}
		}
	}
}

// 6.1: what is removed is gone at once, SAFE or not; what is made anew by its name has nothing of it, and nothing of it is SAFE.
func TestRemove(t *testing.T) {
	for _, s := range stages() {
		for _, keeps := range []string{"-1", "0", "1", "9"} {
			wantState(t, s.lines, after(t, of("a", s)+"; append b; remove a"), "b= on")
			wantState(t, s.lines, after(t, of("a", s)+"; remove a; cut 0; start "+keeps), "on")
		}
		for keeps, want := range map[string]string{"-1": "on", "0": "on", "1": "a=p on", "2": "a=pq on", "9": "a=pq on"} {
			wantState(t, s.lines, after(t, of("a", s)+"; remove a; append a pq; start "+keeps), want)
		}
	}
	wantState(t, "the last change", after(t, "append a x; cut 1; remove a"), "off")
}

// wrong are changes that tell an error with power, and which; there are files a and b.
func wrong() map[string]api.Errno {
	name := long(61)
	return map[string]api.Errno{
		"append  x": api.ErrArg, "append " + name + " x": api.ErrArg, "append " + name: api.ErrArg,
		"sync": api.ErrMissing, "sync c": api.ErrMissing, "sync " + name: api.ErrMissing,
		"move a": api.ErrArg, "move a " + name: api.ErrArg, "move c": api.ErrArg, "move c " + name: api.ErrArg, "move": api.ErrArg, "move " + name + " " + name: api.ErrArg,
		"move c d": api.ErrMissing, "move c a": api.ErrMissing, "move c c": api.ErrMissing, "move  a": api.ErrMissing, "move " + name + " a": api.ErrMissing,
		"remove": api.ErrMissing, "remove c": api.ErrMissing, "remove " + name: api.ErrMissing,
	}
}

// changes are those that are done if there is power.
func changes() []string {
	return []string{"append a", "append a q", "append c", "append c q", "sync a", "sync b", "move a b", "move a a", "move a c", "move b a", "remove a", "remove b"}
}

// 6.1: ErrArg is told ahead of ErrMissing, and both ahead of ErrDevice; what tells them is no change, and takes none of Cut's.
func TestWhichError(t *testing.T) {
	for line, want := range wrong() {
		for _, cut := range []string{"", "; cut 0", "; cut 1", "; cut 2"} {
			d := after(t, "append a xy; sync a; append a z; append b q"+cut)
			was := state(t, d)
			for range 3 {
				wantErr(t, line+cut, did(d, line), want)
				wantState(t, line+cut, d, was)
			}
		}
		d := after(t, "append a xy; sync a; append a z; append b q; cut 1")
		wantErr(t, line, did(d, line), want)
		wantErr(t, "the last change", d.Append("b", "r"), api.OK)
		wantErr(t, line, did(d, line), want)
		wantErr(t, "behind the last change", d.Append("b", "s"), api.ErrDevice)
		wantErr(t, line, did(d, line), want)
		d.Start(0)
		wantState(t, line+": what is SAFE", d, "a=xy on")
	}
}

// 6.1: without power nothing is done, nor made SAFE.
func TestNoPower(t *testing.T) {
	for _, line := range changes() {
		for _, cut := range []string{"append b r; cut 0", "cut 1; append b r", "cut 5; append b r; cut 0"} {
			for keeps, left := range map[int]string{-1: "a=xy on", 0: "a=xy on", 1: "a=xyz b=q on", 9: "a=xyz b=qr on"} {
				d := after(t, "append a xy; sync a; append a z; append b q;"+cut)
				for range 3 {
					wantErr(t, line, did(d, line), api.ErrDevice)
					wantState(t, line, d, "a=xyz b=qr off")
				}
				d.Start(keeps)
				wantState(t, line+": what is SAFE", d, left)
			}
		}
	}
	d := after(t, "cut 0")
	wantErr(t, "Append of the first file", d.Append("a", "x"), api.ErrDevice)
	wantState(t, "no file", d, "off")
}

// 6.1: what is not a change needs no power, and takes none.
func TestReadTakesNoPower(t *testing.T) {
	d := after(t, "append a x; cut 1")
	for range 5 {
		wantState(t, "asked only", d, "a=x on")
		_, err := d.Read("b")
		wantErr(t, "Read", err, api.ErrMissing)
	}
	wantErr(t, "Sync", d.Sync("a"), api.OK)
	_, err := d.Read("b")
	wantErr(t, "Read", err, api.ErrMissing)
	wantState(t, "without power", d, "a=x off")
}

// 6.1: List in order, byte by byte, behind each change, Cut and Start.
func TestList(t *testing.T) {
	names := []string{"\x00", "\x00\x00", " ", "/", "0", "10", "9", "A", "B", "Z", "_", "a", "a\x00", "a/", "a/b", "aa", "ab", "b", "ba", "wal/1", "wal/10", "wal/2", "z", "~", "\x7f", "\x80", "ß", "ä", "\xff", "\xff\x00"}
	want := slices.Clone(names)
	slices.SortFunc(want, func(a, b string) int { return slices.Compare([]byte(a), []byte(b)) })
	r := drawn(2)
	for range 50 {
		r.Shuffle(len(names), func(i, j int) { names[i], names[j] = names[j], names[i] })
		d := &disk.Disk{}
		there := []string{}
		check := func(what string) {
			t.Helper()
			l := slices.DeleteFunc(slices.Clone(want), func(s string) bool { return !slices.Contains(there, s) })
			if !slices.Equal(d.List(), l) {
				t.Fatalf("List behind %s is %q, not %q", what, d.List(), l)
			}
		}
		check("nothing")
		for _, name := range names {
			wantErr(t, "Append", d.Append(name, ""), api.OK)
			there = append(there, name)
			check("Append")
			wantErr(t, "Append", d.Append(name, "x"), api.OK)
			check("Append")
			wantErr(t, "Sync", d.Sync(name), api.OK)
			check("Sync")
		}
		d.Cut(0)
		check("Cut")
		d.Start(0)
		check("Start")
		for _, i := range []int{0, 3, 7} {
			wantErr(t, "Move", d.Move(names[i], names[i+1]), api.OK)
			there = slices.DeleteFunc(there, func(s string) bool { return s == names[i] })
			check("Move")
			wantErr(t, "Append", d.Append(names[i], ""), api.OK)
			there = append(there, names[i])
			check("Append")
		}
		d.Start(-1)
		there = slices.DeleteFunc(there, func(s string) bool { return s == names[0] || s == names[3] || s == names[7] })
		check("Start")
		for _, name := range slices.Clone(there) {
			wantErr(t, "Remove", d.Remove(name), api.OK)
			there = slices.DeleteFunc(there, func(s string) bool { return s == name })
			check("Remove")
		}
	}
}

// P4: what List told, changed by the caller, changes no later answer, nor does a change alter what was told.
func TestFresh(t *testing.T) {
	d := after(t, "append a x; append b y; append c z; sync a")
	first, second := d.List(), d.List()
	for i := range first[:cap(first)] {
		first[:cap(first)][i] = "changed"
	}
	_ = append(first[:1], "more")
	wantState(t, "behind the caller's change", d, "a=x b=y c=z on")
	wantErr(t, "Remove", d.Remove("b"), api.OK)
	wantErr(t, "Append", d.Append("0", ""), api.OK)
	if !slices.Equal(second, []string{"a", "b", "c"}) {
		t.Errorf("what List told became %q", second)
	}
	wantState(t, "behind the changes", d, "0= a=x c=z on")
	d.Start(0)
	wantState(t, "behind Start", d, "a=x on")
}

// P4: what Read told stays, whatever is written behind it, also in the place of bytes that Start let go.
func TestReadStays(t *testing.T) {
	d := after(t, "append a xy; sync a; append a zzzz")
	told, _ := d.Read("a")
	d.Start(1)
	wantErr(t, "Append", d.Append("a", "new"), api.OK)
	if told != "xyzzzz" {
		t.Errorf("what Read told became %q", told)
	}
	wantState(t, "behind Start", d, "a=xyznew on")
}

// P4: one Disk's answers hang on its own calls alone.
func TestApart(t *testing.T) {
	d, other := after(t, "append a x; sync a; cut 5"), after(t, "append b y; append a z")
	wantErr(t, "Remove", other.Remove("a"), api.OK)
	other.Cut(0)
	wantState(t, "the one", d, "a=x on")
	d.Start(0)
	wantState(t, "the other one", other, "b=y off")
}

// P1: no Disk has no files and no power, and none of its calls panics.
func TestNone(t *testing.T) {
	var d *disk.Disk
	d.Cut(5)
	d.Start(5)
	wantState(t, "no Disk", d, "off")
	wantErr(t, "Append", d.Append("a", "x"), api.ErrDevice)
	wantErr(t, "Append", d.Append("", "x"), api.ErrArg)
	wantErr(t, "Sync", d.Sync("a"), api.ErrMissing)
	wantErr(t, "Move", d.Move("a", "b"), api.ErrMissing)
	wantErr(t, "Move", d.Move("a", ""), api.ErrArg)
	wantErr(t, "Remove", d.Remove("a"), api.ErrMissing)
	_, err := d.Read("a")
	wantErr(t, "Read", err, api.ErrMissing)
}

// 6.1, 6.2: all rows of five lines, of two files.
func TestAllRows(t *testing.T) {
	lines := []string{"append a xy", "append b", "append b z", "sync a", "sync b", "move a b", "move b a", "remove a", "start 0", "start 1", "cut 1", "cut 0"}
	rows := 1
	for range 5 {
		rows *= len(lines)
	}
	for row := range rows {
		d, m := &disk.Disk{}, newModel()
		for rest, step := row, 0; step < 5; rest, step = rest/len(lines), step+1 {
			line := lines[rest%len(lines)]
			if err, want := did(d, line), did(m, line); err != want {
				t.Fatalf("row %d, %s: %v, not %v", row, line, err, want)
			}
			sameAs(t, line, d, m, []string{"a", "b"})
		}
	}
}

// 6.1, 6.2: any changes, Cuts and Starts, right and wrong.
func TestAny(t *testing.T) {
	names := []string{"a", "b", "c", "ab", "", long(60), long(61)}
	r := drawn(1)
	for range 3000 {
		d, m := &disk.Disk{}, newModel()
		for range 60 {
			name, to, n := names[r.IntN(len(names))], names[r.IntN(len(names))], r.IntN(8)-2
			line := ""
			switch r.IntN(12) {
			case 0, 1, 2, 3:
				line = "append " + name + " " + "pqrstu"[:r.IntN(7)]
			case 4, 5:
				line = "sync " + name
			case 6, 7:
				line = "move " + name + " " + to
			case 8:
				line = "remove " + name
			case 9:
				line = "cut " + strconv.Itoa(n)
			default:
				line = "start " + strconv.Itoa(n)
			}
			if err, want := did(d, line), did(m, line); err != want {
				t.Fatalf("%s: %v, not %v", line, err, want)
			}
			sameAs(t, line, d, m, names)
		}
	}
}
