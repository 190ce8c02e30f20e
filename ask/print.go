package ask

import (
	"strconv"
	"strings"

	"raingauge/api"
)

// mostParts bounds what is printed: what Parse tells has far fewer parts, and a question that is a part of itself would have no end.
const mostParts = 1 << 16

// signs are the codes from Add to Div, in their order.
var signs = [4]string{"+", "-", "*", "/"}

// How tightly the parts of a question hold together, from the loosest on: a SUM's, a PROD's, and ONE.
const (
	weightSum = iota
	weightProduct
	weightOne
)

// weight is how tightly a question of a code holds together.
func weight(code int) int {
	switch code {
	case api.Add, api.Sub:
		return weightSum
	case api.Mul, api.Div:
		return weightProduct
	}
	return weightOne
}

// printer has what is written, and how many parts may still come (below 0: there were too many).
type printer struct {
	out  strings.Builder
	left int
}

// part writes a part that stands where only what holds together so tightly may stand without ( and ).
func (p *printer) part(q *api.Ask, least int) {
	p.left--
	if q == nil || p.left < 0 {
		return
	}
	if weight(q.Code) >= least {
		p.whole(q)
		return
	}
	p.out.WriteByte('(')
	p.whole(q)
	p.out.WriteByte(')')
}

// whole writes a question.
func (p *printer) whole(q *api.Ask) {
	switch code := q.Code; {
	case code == api.Num:
		p.out.WriteString(strconv.FormatInt(q.Num, 10))
	case code == api.Pick:
		p.out.WriteString(Matchers(q.Match))
	case code >= api.Count && code <= api.Delta:
		p.out.WriteString(words[code-api.Count] + "(" + Matchers(q.Match) + "[" + strconv.FormatInt(q.Span, 10) + "])")
	case code >= api.Total && code <= api.Many:
		p.together(q)
	case code == api.Neg:
		p.out.WriteByte('-')
		p.part(q.Left, weightOne)
	case code >= api.Add && code <= api.Div:
		p.part(q.Left, weight(code))
		p.out.WriteString(" " + signs[code-api.Add] + " ")
		p.part(q.Right, weight(code)+1) // from the left: one of the same weight at the right was in ( and )
	}
}

// together writes a question of OF.
func (p *printer) together(q *api.Ask) {
	p.out.WriteString(words[q.Code-api.Count] + "(")
	p.part(q.Left, weightSum)
	p.out.WriteByte(')')
	if len(q.By) > 0 {
		p.out.WriteString(" by (" + strings.Join(q.By, ", ") + ")")
	}
}

// opText is how an Op is written; one that is none is not.
func opText(op int) string {
	if op < 0 || op >= len(ops) {
		return ""
	}
	return ops[op]
}
