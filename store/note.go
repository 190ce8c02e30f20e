package store

import (
	"strconv"
	"strings"

	"raingauge/api"
	"raingauge/block"
	"raingauge/code"
	"raingauge/disk"
	"raingauge/head"
)

// Kinds of notes, which stand ahead of each (0 is what is read where nothing is).
const (
	kindState = iota + 1 // the mark, the next block's number, and the blocks' numbers
	kindCame             // series that came
	kindGone             // what was taken out, and of the blocks below which number
)

const files = "block/" // each block lies in a file that is called so, and its number

func name(number int64) string { return files + strconv.FormatInt(number, 10) }

// note keeps a note.
func (s *Store) note(note string) error {
	err := s.wal.Add(note)
	s.up = err == nil
	return err
}

// become lets the Store have what it is to have, if all of that is safe.
func (s *Store) become(to state) error {
	err := s.write(to)
	s.up = err == nil
	if err == nil {
		s.now = to
	}
	return err
}

// write lets it lie on the disk. The notes alone tell which blocks there are: those that come are safe ahead of them, and those that go are removed behind them, so that wherever the power goes off it is done, or not.
func (s *Store) write(to state) error {
	for _, number := range to.numbers() {
		if _, there := s.now.blocks[number]; there {
			continue
		}
		if err := putFile(s.disk, name(number), to.blocks[number]); err != nil {
			return err
		}
	}
	if err := s.wal.Set(to.notes()); err != nil {
		return err
	}
	return sweep(s.disk, to)
}

// putFile lets a block lie in a file, safely.
func putFile(d *disk.Disk, file string, b block.Block) error {
	text, err := block.Write(b)
	if err != nil {
		return err
	}
	if err := d.Append(file, text); err != nil {
		return err
	}
	return d.Sync(file)
}

// sweep removes the files of blocks that are no more, or never were.
func sweep(d *disk.Disk, now state) error {
	there := map[string]int64{}
	for _, number := range now.numbers() {
		there[name(number)] = number
	}
	for _, file := range d.List() {
		if _, ok := there[file]; ok || !strings.HasPrefix(file, files) {
			continue
		}
		if err := d.Remove(file); err != nil {
			return err
		}
	}
	return nil
}

// notes say all that there is. What was taken out stands ahead of what lies in the Head, which stayed.
func (n state) notes() []string {
	var w code.Writer
	w.Number(kindState)
	w.Number(n.head.Mark())
	w.Number(n.next)
	w.Number(int64(len(n.blocks)))
	for _, number := range n.numbers() {
		w.Number(number)
	}
	l := append([]string{w.Bytes()}, n.gone...)
	for _, piece := range pieces(n.head.Series()) {
		l = append(l, came(piece))
	}
	return l
}

// came is the note of series that came.
func came(l []api.Series) string {
	var w code.Writer
	w.Number(kindCame)
	text, _ := code.Series(l) // what came may come: there is no error
	return w.Bytes() + text
}

// goes is the note of what is taken out, of the blocks below a number.
func goes(below int64, g api.Gone) string {
	var w code.Writer
	w.Number(kindGone)
	w.Number(below)
	w.Number(g.From)
	w.Number(g.To)
	w.Number(int64(len(g.Match)))
	for _, m := range g.Match {
		w.Text(m.Name)
		w.Number(int64(m.Op))
		w.Text(m.Value)
	}
	return w.Bytes()
}

// read does what a note says. ErrSpoilt: nothing is written so.
func (n *state) read(note string, d *disk.Disk) error {
	r := code.From(note)
	var err error
	switch r.Number() {
	case kindState:
		err = n.readState(r, d)
	case kindCame:
		err = n.head.Append(r.Series())
	case kindGone:
		below := r.Number()
		n.takeOut(note, below, readGone(r))
	default:
		return api.ErrSpoilt
	}
	if err != nil || !r.Done() {
		return api.ErrSpoilt
	}
	return nil
}

// readState reads the mark, the next block's number, and the blocks.
func (n *state) readState(r *code.Reader, d *disk.Disk) error {
	n.head = head.New(r.Number())
	n.next = r.Number()
	for range r.Size(api.MaxBlocks) {
		number := r.Number()
		text, err := d.Read(name(number))
		if err != nil {
			return err
		}
		if n.blocks[number], err = block.Read(text); err != nil {
			return err
		}
	}
	return nil
}

// readGone reads what was taken out.
func readGone(r *code.Reader) api.Gone {
	g := api.Gone{From: r.Number(), To: r.Number()}
	for range r.Size(api.MaxLabels) {
		g.Match = append(g.Match, api.Matcher{Name: r.Text(), Op: int(r.Number()), Value: r.Text()})
	}
	return g
}
