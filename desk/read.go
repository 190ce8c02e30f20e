package desk

import (
	"strconv"
	"strings"

	"raingauge/api"
	"raingauge/ask"
)

// What may stand behind a line's first word, a letter each in an act's form.
const (
	aNumber = 'N'
	aMatch  = 'M' // always the first one
	aWord   = 'W'
)

// act is what a line does, and the form of what stands behind its first word. More of what stands last there may follow, so many at once (0: none).
type act struct {
	form string
	more int
	do   func(g given) string
}

// given is what stands in a line: its first word, and what stands behind it.
type given struct {
	word    string
	match   []api.Matcher
	numbers []int64
	text    string // words, with one blank between
}

// read throws ErrForm, unless just so many words are there as the form asks for, and numbers where it asks for them; then Match's errors.
func (a act) read(words []string) given {
	g := given{word: words[0]}
	words = words[1:]
	if !a.fits(len(words)) {
		panic(api.ErrForm)
	}
	var text []string
	for i, word := range words {
		switch a.kind(i) {
		case aNumber:
			g.numbers = append(g.numbers, number(word))
		case aWord:
			text = append(text, word)
		}
	}
	g.text = strings.Join(text, string(blank))
	if len(words) > 0 && a.kind(0) == aMatch { // behind the numbers, which are looked at ahead of all else
		g.match = must(ask.Match(words[0]))
	}
	return g
}

// fits says whether so many words may stand there.
func (a act) fits(count int) bool {
	beyond := count - len(a.form)
	return beyond == 0 || a.more > 0 && beyond > 0 && beyond%a.more == 0
}

// kind is what the word of a place is to be.
func (a act) kind(place int) byte { return a.form[min(place, len(a.form)-1)] }

// number throws ErrForm, unless a word is just what a number of 64 bits is written as.
func number(word string) int64 {
	n, err := strconv.ParseInt(word, 10, 64)
	if err != nil || written(n) != word {
		panic(api.ErrForm)
	}
	return n
}

func written(n int64) string { return strconv.FormatInt(n, 10) }
