package wal_test

// What chapter 7 says, once more: of a Wal it is known which notes a call without an error left last, and, if one told ErrDevice behind it, which ones it would have left.

import (
	"errors"
	"fmt"
	"math/rand/v2"
	"slices"
	"strings"
	"testing"

	"raingauge/api"
	"raingauge/disk"
	"raingauge/wal"
)

const most = 60000

// model has the notes that are sure, and those that may be in their place.
type model struct {
	sure    []string
	perhaps []string
	failed  bool
}

// did tells the model of a change, what it would leave, and its error.
func (m *model) did(left []string, err error) {
	switch api.Tell(err) {
	case api.OK:
		*m = model{sure: slices.Clone(left)}
	case api.ErrDevice:
		m.perhaps, m.failed = slices.Clone(left), true
	}
}

// found tells the model which notes were found, and says whether it may be so; from then on they are sure.
func (m *model) found(notes []string) bool {
	if !slices.Equal(notes, m.sure) && !(m.failed && slices.Equal(notes, m.perhaps)) {
		return false
	}
	*m = model{sure: slices.Clone(notes)}
	return true
}

// op is an Add of one note, or a Set of any.
type op struct {
	set   bool
	notes []string
}

func add(note string) op     { return op{notes: []string{note}} }
func set(notes ...string) op { return op{set: true, notes: notes} }
func (o op) String() string  { return fmt.Sprintf("%v %.20q", o.set, o.notes) }
func long(n int) string      { return strings.Repeat("n", n) }
func (o op) tooLong() bool {
	return slices.ContainsFunc(o.notes, func(s string) bool { return len(s) > most })
}
func (o op) do(w *wal.Wal) error {
	if o.set {
		return w.Set(o.notes)
	}
	return w.Add(o.notes[0])
}

// left are the notes behind an op, by those ahead of it.
func (o op) left(notes []string) []string {
	if o.set {
		return slices.Clone(o.notes)
	}
	return append(slices.Clone(notes), o.notes...)
}

// run is a disk, the Wal over it, and what is known of that.
type run struct {
	d    *disk.Disk
	w    *wal.Wal
	m    model
	what []string
}

// began is a Wal over a new disk, behind some ops, each of which is done.
func began(t *testing.T, ops ...op) *run {
	t.Helper()
	r := &run{d: &disk.Disk{}}
	r.open(t)
	for _, o := range ops {
		r.do(t, o)
	}
	return r
}

func (r *run) say(l ...any) { r.what = append(r.what, fmt.Sprint(l...)) }

// do does an op, and holds its error, and whether the Wal is Down, against what they are to be.
func (r *run) do(t *testing.T, o op) error {
	t.Helper()
	r.say(o)
	was, power := r.w.Down(), r.d.On()
	err := o.do(r.w)
	e := api.Tell(err)
	switch {
	case o.tooLong():
		r.want(t, e == api.ErrArg && r.w.Down() == was, err)
	case was:
		r.want(t, e == api.ErrState && r.w.Down(), err)
	case !power:
		r.want(t, e == api.ErrDevice && r.w.Down(), err)
	case r.d.On():
		r.want(t, e == api.OK && !r.w.Down(), err)
	default: // the power went off while it was done, perhaps behind all of it
		r.want(t, e == api.OK && !r.w.Down() || e == api.ErrDevice && r.w.Down(), err)
	}
	r.m.did(o.left(r.m.sure), err)
	return err
}

func (r *run) want(t *testing.T, right bool, l ...any) {
	t.Helper()
	if !right {
		t.Fatal(append([]any{strings.Join(r.what, "; "), ": "}, l...)...)
	}
}

// open opens the Wal anew, and holds what it has against what is known. Without power it may tell ErrDevice: then nothing else.
func (r *run) open(t *testing.T) error {
	t.Helper()
	r.say("open")
	power := r.d.On()
	w, notes, err := wal.Open(r.d)
	if err != nil {
		r.want(t, api.Tell(err) == api.ErrDevice && !(power && r.d.On()) && w == nil && len(notes) == 0, w, notes, err)
		return err
	}
	r.want(t, w != nil && !w.Down(), "it is Down")
	r.want(t, r.m.found(notes), fmt.Sprintf("%.200q, not %.200q nor %.200q", notes, r.m.sure, r.m.perhaps))
	r.w = w
	return nil
}

// start lets the power come back, and opens the Wal anew.
func (r *run) start(t *testing.T, keeps int) {
	t.Helper()
	r.say("start ", keeps)
	r.d.Start(keeps)
	r.want(t, r.open(t) == nil, "it is not opened")
}

func (r *run) cut(changes int) {
	r.say("cut ", changes)
	r.d.Cut(changes)
}

// wantNotes holds the notes of a Wal that is opened anew against what they are to be.
func wantNotes(t *testing.T, what string, d *disk.Disk, want ...string) {
	t.Helper()
	w, notes, err := wal.Open(d)
	wantErr(t, what, err, api.OK)
	if w == nil || w.Down() || !slices.Equal(notes, want) {
		t.Errorf("%s: %.200q, not %.200q", what, notes, want)
	}
}

// wantErr holds an error against what it is to be; no At is in it.
func wantErr(t *testing.T, what string, err error, want api.Errno) {
	t.Helper()
	var at *api.At
	if api.Tell(err) != want || (err == nil) != (want == api.OK) || errors.As(err, &at) {
		t.Errorf("%s: the error is %v, not %v", what, err, want)
	}
}

// opened is the Wal of a disk, which must be there.
func opened(t *testing.T, d *disk.Disk) *wal.Wal {
	t.Helper()
	w, _, err := wal.Open(d)
	if w == nil || err != nil {
		t.Fatalf("it is not opened: %v", err)
	}
	return w
}

// drawn makes numbers that look drawn, the same each time.
func drawn(seed uint64) *rand.Rand { return rand.New(rand.NewPCG(seed, 2)) }
