package disk_test

// What chapter 6 says, once more: files lie in a list, each as two texts, what is SAFE and what is not.

import (
	"errors"
	"fmt"
	"math/rand/v2"
	"slices"
	"strings"
	"testing"

	"raingauge/api"
	"raingauge/disk"
)

// drive is what a Disk and its model have.
type drive interface {
	Cut(changes int)
	On() bool
	Append(file, s string) error
	Sync(file string) error
	Move(file, to string) error
	Remove(file string) error
	Read(file string) (string, error)
	List() []string
	Start(keeps int)
}

type modelFile struct {
	name, safe, rest string
	ever             bool
}

// model has power for so many changes (below 0: for all).
type model struct {
	files []modelFile
	power int
}

func newModel() *model { return &model{power: -1} }

func (m *model) at(name string) int {
	return slices.IndexFunc(m.files, func(f modelFile) bool { return f.name == name })
}

func (m *model) Cut(changes int) { m.power = changes }

func (m *model) On() bool { return m.power != 0 }

// change tells the first error of a change, or does it.
func (m *model) change(right, there bool, do func()) error {
	switch {
	case !right:
		return api.ErrArg
	case !there:
		return api.ErrMissing
	case m.power == 0:
		return api.ErrDevice
	case m.power > 0:
		m.power--
	}
	do()
	return nil
}

func fits(name string) bool { return name != "" && len(name) < 61 }

func (m *model) Append(file, s string) error {
	return m.change(fits(file), true, func() {
		if m.at(file) < 0 {
			m.files = append(m.files, modelFile{name: file})
		}
		m.files[m.at(file)].rest += s
	})
}

func (m *model) Sync(file string) error {
	return m.change(true, m.at(file) >= 0, func() {
		f := &m.files[m.at(file)]
		*f = modelFile{name: file, safe: f.safe + f.rest, ever: true}
	})
}

func (m *model) Move(file, to string) error {
	return m.change(fits(to), m.at(file) >= 0, func() {
		moved := m.files[m.at(file)]
		m.drop(file)
		m.drop(to)
		moved.name = to
		m.files = append(m.files, moved)
	})
}

func (m *model) Remove(file string) error {
	return m.change(true, m.at(file) >= 0, func() { m.drop(file) })
}

func (m *model) drop(name string) {
	m.files = slices.DeleteFunc(m.files, func(f modelFile) bool { return f.name == name })
}

func (m *model) Read(file string) (string, error) {
	if m.at(file) < 0 {
		return "", api.ErrMissing
	}
	f := m.files[m.at(file)]
	return f.safe + f.rest, nil
}

func (m *model) List() (out []string) {
	for _, f := range m.files {
		out = append(out, f.name)
	}
	slices.SortFunc(out, strings.Compare)
	return out
}

func (m *model) Start(keeps int) {
	m.power = -1
	var stay []modelFile
	for _, f := range m.files {
		for i := 0; i < keeps && f.rest != ""; i++ {
			f.safe, f.rest = f.safe+f.rest[:1], f.rest[1:]
		}
		if f.ever || keeps >= 1 {
			stay = append(stay, modelFile{name: f.name, safe: f.safe, ever: true})
		}
	}
	m.files = stay
}

// did does what a line says, such as "append a xyz", "sync a", "move a b", "remove a", "cut 1", "start 0"; a word that is not there is the empty text.
func did(d drive, line string) error {
	words := append(strings.Split(strings.TrimSpace(line), " "), "", "")
	switch words[0] {
	case "append":
		return d.Append(words[1], words[2])
	case "sync":
		return d.Sync(words[1])
	case "move":
		return d.Move(words[1], words[2])
	case "remove":
		return d.Remove(words[1])
	}
	var n int
	if _, err := fmt.Sscan(words[1], &n); err != nil {
		panic(line)
	}
	switch words[0] {
	case "cut":
		d.Cut(n)
	case "start":
		d.Start(n)
	default:
		panic(line)
	}
	return nil
}

// after is a new Disk, behind the lines of a text, with ; between them; none of them may tell an error.
func after(t *testing.T, lines string) *disk.Disk {
	t.Helper()
	d := &disk.Disk{}
	for line := range strings.SplitSeq(lines, ";") {
		if strings.TrimSpace(line) != "" {
			wantErr(t, lines+": "+line, did(d, line), api.OK)
		}
	}
	return d
}

// state is all that a disk tells: each file as name=bytes, in List's order, and whether there is power.
func state(t *testing.T, d drive) string {
	t.Helper()
	var words []string
	for _, name := range d.List() {
		s, err := d.Read(name)
		wantErr(t, "Read of "+name, err, api.OK)
		words = append(words, name+"="+s)
	}
	if d.On() {
		return strings.Join(append(words, "on"), " ")
	}
	return strings.Join(append(words, "off"), " ")
}

// wantState holds all that a disk tells against what it is to tell.
func wantState(t *testing.T, what string, d drive, want string) {
	t.Helper()
	if got := state(t, d); got != want {
		t.Errorf("%s: %s, not %s", what, got, want)
	}
}

// wantErr holds an error against what it is to be; no At is in it.
func wantErr(t *testing.T, what string, err error, want api.Errno) {
	t.Helper()
	var at *api.At
	if api.Tell(err) != want || (err == nil) != (want == api.OK) || errors.As(err, &at) {
		t.Errorf("%s: the error is %v, not %v", what, err, want)
	}
}

// sameAs holds a Disk against its model, of some names.
func sameAs(t *testing.T, what string, d, m drive, names []string) {
	t.Helper()
	if !slices.Equal(d.List(), m.List()) || d.On() != m.On() {
		t.Fatalf("%s: %q %v, not %q %v", what, d.List(), d.On(), m.List(), m.On())
	}
	for _, name := range names {
		s, err := d.Read(name)
		want, wrong := m.Read(name)
		if s != want || err != wrong {
			t.Fatalf("%s: %q is %q, %v, not %q, %v", what, name, s, err, want, wrong)
		}
	}
}

// drawn makes numbers that look drawn, the same each time.
func drawn(seed uint64) *rand.Rand { return rand.New(rand.NewPCG(seed, 2)) }
