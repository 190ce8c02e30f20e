package desk

import (
	"maps"
	"slices"
	"strconv"
	"strings"

	"raingauge/api"
	"raingauge/ask"
	"raingauge/label"
	"raingauge/store"
)

// all are what lines do, by their first words.
func (s *session) all() map[string]act {
	return map[string]act{
		"put":     {"MNN", 2, s.put},
		"add":     {"", 0, s.add},
		"drop":    {"", 0, s.drop},
		"cut":     {"N", 0, s.cut},
		"delete":  {"MNN", 0, s.delete},
		"compact": {"", 0, s.compact},
		"retain":  {"N", 0, s.retain},
		"select":  {"MNN", 0, s.selects},
		"rollup":  {"MNNN", 0, s.rollup},
		"ask":     {"NW", 1, s.ask},
		"print":   {"W", 1, s.print},
		"values":  {"W", 0, s.values},
		"blocks":  {"", 0, s.blocks},
		"mark":    {"", 0, s.mark},
		"state":   {"", 0, s.state},
		"power":   {"N", 0, s.power},
		"crash":   {"N", 0, s.crash},
		"help":    {"", 0, s.help},
	}
}

func (s *session) put(g given) string {
	var one api.Series
	for _, m := range g.match {
		if m.Op != api.Is {
			panic(api.ErrForm)
		}
		one.Labels = append(one.Labels, api.Label{Name: m.Name, Value: m.Value})
	}
	for pair := range slices.Chunk(g.numbers, 2) {
		one.Samples = append(one.Samples, api.Sample{Time: pair[0], Value: pair[1]})
	}
	s.coming = append(s.coming, one)
	return g.word
}

func (s *session) add(g given) string {
	l := s.coming
	s.coming = nil // also if it is refused
	check(s.store.Append(l))
	return g.word
}

func (s *session) drop(g given) string {
	s.coming = nil
	return g.word
}

func (s *session) cut(g given) string {
	check(s.store.Cut(g.numbers[0]))
	return g.word
}

func (s *session) delete(g given) string {
	check(s.store.Delete(api.Gone{Match: g.match, From: g.numbers[0], To: g.numbers[1]}))
	return g.word
}

func (s *session) compact(g given) string {
	check(s.store.Compact())
	return g.word
}

func (s *session) retain(g given) string {
	count := must(s.store.Retain(g.numbers[0]))
	return row(g.word, strconv.Itoa(count))
}

func (s *session) selects(g given) string {
	words := []string{g.word}
	for _, one := range must(s.store.Select(g.match, g.numbers[0], g.numbers[1])) {
		words = append(words, label.Text(one.Labels))
		for _, sample := range one.Samples {
			words = append(words, written(sample.Time)+":"+written(sample.Value))
		}
	}
	return row(words...)
}

func (s *session) rollup(g given) string {
	words := []string{g.word}
	for _, one := range must(s.store.Rollup(g.match, g.numbers[0], g.numbers[1], g.numbers[2])) {
		words = append(words, label.Text(one.Labels))
		for _, b := range one.Buckets {
			words = append(words, row(texts(b.Start, b.Count, b.Sum, b.Min, b.Max)...)+";")
		}
	}
	return row(words...)
}

func (s *session) ask(g given) string {
	points, alone, err := s.store.Query(must(ask.Parse(g.text)), g.numbers[0])
	check(err)
	if len(points) > api.MaxAnswer {
		panic(api.ErrLimit)
	}
	words := []string{g.word}
	for _, p := range points {
		if !alone {
			words = append(words, label.Text(p.Labels))
		}
		words = append(words, written(p.Value))
	}
	return row(words...)
}

func (s *session) print(g given) string { return ask.Print(must(ask.Parse(g.text))) }

func (s *session) values(g given) string {
	return row(slices.Concat([]string{g.word}, must(s.store.Values(g.text)))...)
}

func (s *session) blocks(g given) string {
	numbers, to := s.store.Blocks()
	return row(slices.Concat([]string{g.word}, texts(numbers...), []string{"to"}, texts(to...))...)
}

func (s *session) mark(g given) string { return row(g.word, written(s.store.Mark())) }

func (s *session) state(g given) string {
	return row(g.word, strconv.FormatBool(s.store.Down()), strconv.Itoa(len(s.coming)))
}

func (s *session) power(g given) string {
	s.disk.Cut(within(g.numbers[0]))
	return g.word
}

func (s *session) crash(g given) string {
	s.disk.Start(within(g.numbers[0]))
	s.store = must(store.Open(s.disk))
	return g.word
}

func (s *session) help(given) string { return row(slices.Sorted(maps.Keys(s.acts))...) }

// within is how many changes, or bytes, a line may tell.
func within(n int64) int { return int(min(max(n, -1), 1000)) }

// row is words as they are answered.
func row(words ...string) string { return strings.Join(words, string(blank)) }

// texts are numbers as they are written.
func texts(l ...int64) []string {
	var words []string
	for _, n := range l {
		words = append(words, written(n))
	}
	return words
}
