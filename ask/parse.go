package ask

import (
	"strconv"

	"raingauge/api"
	"raingauge/label"
)

const pickSpan = 300 // how old the last sample may be

// ops are what is asked of a label, each at the place of its Op.
var ops = [4]string{"=", "!=", "^=", "!^"}

// words are the codes from Count to Many, in their order.
var words = [9]string{"count", "sum", "min", "max", "delta", "total", "least", "most", "many"}

// parser has the tokens that are left; the end stands behind them, and is never taken.
type parser struct{ left []token }

// read cuts a text, and has all of it parsed. What is thrown on the way is the error.
func read[T any](s string, what func(p *parser) T) (out T, err error) {
	defer func() {
		thrown := recover()
		if thrown == nil {
			return
		}
		at, ok := thrown.(*api.At)
		if !ok { // not thrown by this package: a fault of it, that no error may hide
			panic(thrown)
		}
		err = at
	}()
	p := &parser{left: cut(s)}
	got := what(p) // not out yet: beside an error there is none
	if t := p.here(); t.kind != theEnd {
		panic(wrong(api.ErrForm, t.at))
	}
	return got, nil
}

// here is the token that comes next.
func (p *parser) here() token { return p.left[0] }

// take takes the next token, if it is this one.
func (p *parser) take(said string) bool {
	if p.here().said != said {
		return false
	}
	p.left = p.left[1:]
	return true
}

// need takes a token that must stand there.
func (p *parser) need(said string) {
	if !p.take(said) {
		panic(wrong(api.ErrForm, p.here().at))
	}
}

// needKind takes a token of a kind that must stand there.
func (p *parser) needKind(what kind) token {
	t := p.here()
	if t.kind != what {
		panic(wrong(api.ErrForm, t.at))
	}
	p.left = p.left[1:]
	return t
}

// sum is a SUM that stands in so many - ( OF.
func (p *parser) sum(deep int) *api.Ask {
	q := p.product(deep)
	for {
		switch {
		case p.take("+"):
			q = &api.Ask{Code: api.Add, Left: q, Right: p.product(deep)}
		case p.take("-"):
			q = &api.Ask{Code: api.Sub, Left: q, Right: p.product(deep)}
		default:
			return q
		}
	}
}

// product is a PROD.
func (p *parser) product(deep int) *api.Ask {
	q := p.one(deep)
	for {
		switch {
		case p.take("*"):
			q = &api.Ask{Code: api.Mul, Left: q, Right: p.one(deep)}
		case p.take("/"):
			q = &api.Ask{Code: api.Div, Left: q, Right: p.one(deep)}
		default:
			return q
		}
	}
}

// one is a ONE.
func (p *parser) one(deep int) *api.Ask {
	t := p.here()
	if deep > api.MaxDepth { // ahead of what stands there: at one token ErrLimit is told first
		panic(wrong(api.ErrLimit, t.at))
	}
	switch {
	case p.take("-"):
		return &api.Ask{Code: api.Neg, Left: p.one(deep + 1)}
	case p.take("("):
		q := p.sum(deep + 1)
		p.need(")")
		return q
	case t.said == "{":
		return &api.Ask{Code: api.Pick, Match: p.some(), Span: pickSpan}
	case t.kind == aNumber:
		return &api.Ask{Code: api.Num, Num: p.number()}
	}
	code := codeOf(t.said)
	switch {
	case code >= api.Count && code <= api.Delta:
		return p.over(code)
	case code >= api.Total && code <= api.Many:
		return p.of(code, deep)
	}
	panic(wrong(api.ErrForm, t.at))
}

// codeOf is the code of a word of OVER or of OF; 0: it is none.
func codeOf(said string) int {
	for i, w := range words {
		if w == said {
			return api.Count + i
		}
	}
	return 0
}

// over is OVER ( SOME [ NUMBER ] ).
func (p *parser) over(code int) *api.Ask {
	p.needKind(aWord)
	p.need("(")
	match := p.some()
	p.need("[")
	span := p.span()
	p.need("]")
	p.need(")")
	return &api.Ask{Code: code, Match: match, Span: span}
}

// of is OF ( SUM ), perhaps with by ( NAME , .. ).
func (p *parser) of(code, deep int) *api.Ask {
	p.needKind(aWord)
	p.need("(")
	q := &api.Ask{Code: code, Left: p.sum(deep + 1)}
	p.need(")")
	if p.take("by") {
		q.By = p.names()
	}
	return q
}

// names is ( NAME , .. ).
func (p *parser) names() []string {
	p.need("(")
	var out []string
	for {
		t := p.here()
		name := p.name()
		if len(out) == api.MaxLabels {
			panic(wrong(api.ErrLimit, t.at))
		}
		out = append(out, name)
		if !p.take(",") {
			break
		}
	}
	p.need(")")
	return out
}

// name is a NAME.
func (p *parser) name() string {
	t := p.needKind(aWord)
	if !label.Name(t.said) {
		panic(wrong(api.ErrLimit, t.at))
	}
	return t.said
}

// number is a NUMBER.
func (p *parser) number() int64 {
	n, _ := strconv.ParseInt(p.needKind(aNumber).said, 10, 64) // a NUMBER is digits, and few enough
	return n
}

// span is the NUMBER of OVER.
func (p *parser) span() int64 {
	t := p.here()
	n := p.number()
	if n > api.MaxTime {
		panic(wrong(api.ErrLimit, t.at))
	}
	return max(n, 1)
}

// some is a SOME.
func (p *parser) some() []api.Matcher {
	p.need("{")
	var out []api.Matcher
	if p.take("}") {
		return out
	}
	for {
		if len(out) == api.MaxLabels { // whatever stands there
			panic(wrong(api.ErrLimit, p.here().at))
		}
		out = append(out, p.matcher())
		if !p.take(",") {
			break
		}
	}
	p.need("}")
	return out
}

// matcher is NAME OP TEXT.
func (p *parser) matcher() api.Matcher {
	name := p.name()
	op := p.op()
	t := p.needKind(aText)
	m := api.Matcher{Name: name, Op: op, Value: t.said[1 : len(t.said)-1]}
	if !label.Asked([]api.Matcher{m}) { // its Name and its Op may be: the TEXT is no VALUE
		panic(wrong(api.ErrLimit, t.at))
	}
	return m
}

// op is an OP.
func (p *parser) op() int {
	for i, o := range ops {
		if p.take(o) {
			return i
		}
	}
	panic(wrong(api.ErrForm, p.here().at))
}
