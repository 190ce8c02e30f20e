package label_test

// What chapter 4 says, once more: letters by patterns, orders by the numbers of bytes.

import (
	"fmt"
	"math/rand/v2"
	"regexp"
	"strings"

	"raingauge/api"
)

// said is labels, from a name and a value by turns.
func said(s ...string) (l []api.Label) {
	for i := 0; i < len(s); i += 2 {
		l = append(l, api.Label{Name: s[i], Value: s[i+1]})
	}
	return l
}

// asks is a matcher.
func asks(name string, op int, value string) api.Matcher {
	return api.Matcher{Name: name, Op: op, Value: value}
}

// many are labels that may be a series', that many.
func many(n int) (l []api.Label) {
	for i := range n {
		l = append(l, api.Label{Name: "n" + string(rune('a'+i)), Value: "v"})
	}
	return l
}

var (
	namePattern  = regexp.MustCompile(`\A[A-Za-z_][A-Za-z0-9_]{0,23}\z`)
	valuePattern = regexp.MustCompile(`\A[\x20-\x21\x23-\x5b\x5d-\x7e]{0,24}\z`)
)

// rightModel says what Right says.
func rightModel(l []api.Label) bool {
	if len(l) == 0 || len(l) > 8 {
		return false
	}
	for i, one := range l {
		if !namePattern.MatchString(one.Name) || !valuePattern.MatchString(one.Value) || len(one.Value) == 0 {
			return false
		}
		for _, before := range l[:i] {
			if orderModel(before.Name, one.Name) >= 0 {
				return false
			}
		}
	}
	return true
}

// orderModel is the order of two texts: by the numbers of their bytes, one more than nothing.
func orderModel(a, b string) int {
	for i := 0; i < len(a) || i < len(b); i++ {
		x, y := 0, 0
		if i < len(a) {
			x = int(a[i]) + 1
		}
		if i < len(b) {
			y = int(b[i]) + 1
		}
		if x != y {
			return x - y
		}
	}
	return 0
}

// compareModel is what Compare tells, by all the texts in a row.
func compareModel(a, b []api.Label) int {
	for i := range max(len(a), len(b)) {
		switch {
		case i >= len(a):
			return -1
		case i >= len(b):
			return 1
		case a[i].Name != b[i].Name:
			return orderModel(a[i].Name, b[i].Name)
		case a[i].Value != b[i].Value:
			return orderModel(a[i].Value, b[i].Value)
		}
	}
	return 0
}

// textModel is what Text tells.
func textModel(l []api.Label) string {
	var parts []string
	for _, one := range l {
		parts = append(parts, fmt.Sprintf("%s=\"%s\"", one.Name, one.Value))
	}
	return "{" + strings.Join(parts, ",") + "}"
}

// askedModel says what Asked says.
func askedModel(l []api.Matcher) bool {
	for _, m := range l {
		switch m.Op {
		case api.Is, api.IsNot, api.Begins, api.BeginsNot:
		default:
			return false
		}
		if !namePattern.MatchString(m.Name) || !valuePattern.MatchString(m.Value) {
			return false
		}
	}
	return len(l) <= 8
}

// oneModel says what One says of an Op that may be: the first label of that name counts, or the empty text.
func oneModel(l []api.Label, m api.Matcher) bool {
	text := ""
	for i := len(l) - 1; i >= 0; i-- {
		if l[i].Name == m.Name {
			text = l[i].Value
		}
	}
	same := text == m.Value
	begins := len(text) >= len(m.Value) && text[:min(len(m.Value), len(text))] == m.Value
	return []bool{same, !same, begins, !begins}[m.Op]
}

// drawn makes numbers that look drawn, the same each time.
func drawn(seed uint64) *rand.Rand { return rand.New(rand.NewPCG(seed, 2)) }

// anyText is a text of a few bytes, most of them such as may be in a name.
func anyText(r *rand.Rand, most int) string {
	b := make([]byte, r.IntN(most+1))
	for i := range b {
		b[i] = "aabbzAZ_019"[r.IntN(11)]
		if r.IntN(40) == 0 {
			b[i] = byte(r.IntN(256))
		}
	}
	return string(b)
}

// anyLabels are labels of short texts, so that many of them are alike.
func anyLabels(r *rand.Rand, most, letters int) (l []api.Label) {
	for range r.IntN(most + 1) {
		l = append(l, api.Label{Name: anyText(r, letters), Value: anyText(r, letters)})
	}
	return l
}

// rising are labels of names that rise, most of them such as may be a series'.
func rising(r *rand.Rand) (l []api.Label) {
	for c := 'a'; c <= 'm'; c++ {
		if r.IntN(3) == 0 {
			l = append(l, api.Label{Name: string(c) + anyText(r, 2), Value: "v" + anyText(r, 2)})
		}
	}
	return l
}

// anyMatchers are matchers, most of them such as may be.
func anyMatchers(r *rand.Rand, most int) (l []api.Matcher) {
	for range r.IntN(most + 1) {
		l = append(l, asks("abcz"[r.IntN(3):][:1]+anyText(r, 1), r.IntN(4), anyText(r, 2)))
	}
	return l
}
