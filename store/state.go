package store

import (
	"maps"
	"slices"

	"raingauge/api"
	"raingauge/block"
	"raingauge/chunk"
	"raingauge/head"
	"raingauge/label"
)

// state is what a Store has.
type state struct {
	head   *head.Head
	blocks map[int64]block.Block // by their numbers, without what was taken out
	next   int64                 // the next block's number
	gone   []string              // the notes of what was taken out since all was put together: files of blocks stay as they were written
}

// first is what a Store has at first.
func first() state {
	return state{head: head.New(-api.MaxTime - 1), blocks: map[int64]block.Block{}}
}

// again is the same once more, to be changed: what there is stays as it is, until that is safe.
func (n state) again() state {
	n.head = filled(n.head.Mark(), n.head.Series())
	n.blocks = maps.Clone(n.blocks)
	return n
}

// filled is a Head of a mark, with series of one of that mark.
func filled(mark int64, l []api.Series) *head.Head {
	h := head.New(mark)
	for _, piece := range pieces(l) {
		_ = h.Append(piece) // they came once: they come again
	}
	return h
}

// pieces are series as they may come: no more samples than that at once.
func pieces(l []api.Series) (out [][]api.Series) {
	for _, one := range l {
		for samples := range slices.Chunk(one.Samples, api.MaxBatch) {
			out = append(out, []api.Series{{Labels: one.Labels, Samples: samples}})
		}
	}
	return out
}

// numbers are the blocks' numbers, rising.
func (n state) numbers() []int64 { return slices.Sorted(maps.Keys(n.blocks)) }

// put lets there be a block, of the next number.
func (n *state) put(b block.Block) {
	n.blocks[n.next] = b
	n.next++
}

// takeOut takes samples out of the Head, and of the blocks below a number (those that came later had not come yet), as a note says.
func (n *state) takeOut(note string, below int64, g api.Gone) {
	n.head.Gone(g)
	for number, b := range n.blocks {
		if number < below {
			b.Series = block.Without(b.Series, []api.Gone{g})
			n.blocks[number] = b
		}
	}
	n.gone = append(n.gone, note)
}

// full tells the first one whose series would have too many samples, with all that comes and those that are put away; was is what lay in the Head before.
func (n state) full(was, l []api.Series) error {
	for place, one := range l {
		count := held(was, one.Labels)
		for _, b := range n.blocks {
			count += held(b.Series, one.Labels)
		}
		for _, x := range l { // a series may come twice: what comes later counts already
			if label.Compare(x.Labels, one.Labels) == 0 {
				count += len(x.Samples)
			}
		}
		if count > api.MaxSamples {
			return &api.At{Err: api.ErrFull, Place: place}
		}
	}
	return nil
}

// held is how many samples series have by these labels.
func held(l []api.Series, labels []api.Label) int {
	place, there := slices.BinarySearchFunc(l, labels, func(x api.Series, labels []api.Label) int {
		return label.Compare(x.Labels, labels)
	})
	if !there {
		return 0
	}
	return len(l[place].Samples)
}

// lists are the series of all blocks, by their numbers, and the Head's.
func (n state) lists() (out [][]api.Series) {
	for _, number := range n.numbers() {
		out = append(out, n.blocks[number].Series)
	}
	return append(out, n.head.Series())
}

// picked are all series that match, with their samples from one time to another one, none without. They are picked ahead of being put together: it is the same, and less.
func (n state) picked(m []api.Matcher, from, to int64) []api.Series {
	var all []api.Series
	for _, l := range n.lists() {
		all = block.Merge(all, pick(l, m, from, to))
	}
	return all
}

// pick are those of series that match, with their samples from one time to another one, none without.
func pick(l []api.Series, m []api.Matcher, from, to int64) []api.Series {
	var out []api.Series
	for _, one := range l {
		if !label.All(one.Labels, m) {
			continue
		}
		if samples := chunk.Between(one.Samples, from, to); len(samples) > 0 {
			out = append(out, api.Series{Labels: one.Labels, Samples: samples})
		}
	}
	return out
}
