package ttext

import (
	"voussoir/api"
	"voussoir/lexi"
	"voussoir/terms"
	"voussoir/tokens"
)

// deepest is the nesting depth at which nothing more can be opened.
const deepest = 4 * api.MaxDeep

// Parse returns the valid term for which s stands, and len(s), or an error and its offset.
func Parse(s string) (t api.Term, at int, e api.Errno) {
	return tokens.Whole(s, Take)
}

// Take returns the valid term that begins at token i and the index of the token after it, or an error and the index of its token.
func Take(l []lexi.Token, i int) (t api.Term, next int, e api.Errno) {
	if i < 0 || i > len(l) {
		return api.Term{}, 0, api.ErrRange
	}
	p := parser{List: tokens.List{Tokens: l, At: i}}
	defer func() {
		switch fault := recover().(type) {
		case nil:
		case api.Errno:
			t, next, e = api.Term{}, p.At, fault
		default:
			panic(fault)
		}
	}()
	t = p.term()
	if e := terms.Check(t); e != api.OK {
		return api.Term{}, i, e
	}
	return t, p.At, api.OK
}

// parser reads terms from a list. It panics with the error if the next token is not allowed.
type parser struct {
	tokens.List
	depth int // the nesting depth of the next token
}

// need reads the next token, which must be that one.
func (p *parser) need(kind int, text string) {
	if !p.Accept(kind, text) {
		panic(api.ErrSyntax)
	}
}

// needKind reads the next token, which must be of that kind, and returns it.
func (p *parser) needKind(kind int) lexi.Token {
	t := p.Peek()
	if t.Kind != kind {
		panic(api.ErrSyntax)
	}
	p.At++
	return t
}

// operator reads the next token if it is one of the operators, and returns that operator or 0.
func (p *parser) operator(ops ...int) int {
	for _, op := range ops {
		if p.Accept(symbol(op)) {
			return op
		}
	}
	return 0
}

// open reads the next token, which encloses what is read until shut is called.
func (p *parser) open() {
	if p.depth == deepest {
		panic(api.ErrDeep)
	}
	p.At++
	p.depth++
}

func (p *parser) shut() {
	p.depth--
}

func node(op int, kids ...api.Term) api.Term {
	return api.Term{Op: op, Kids: kids}
}

func (p *parser) term() api.Term {
	t := p.imp()
	if p.Accept(symbol(api.TIff)) {
		return node(api.TIff, t, p.imp())
	}
	return t
}

func (p *parser) imp() api.Term {
	t := p.or()
	if !p.Is(symbol(api.TImp)) {
		return t
	}
	p.open()
	right := p.imp()
	p.shut()
	return node(api.TImp, t, right)
}

func (p *parser) or() api.Term {
	return p.row(api.TOr, p.and)
}

func (p *parser) and() api.Term {
	return p.row(api.TAnd, p.not)
}

// row reads operands with the operator between them.
func (p *parser) row(op int, operand func() api.Term) api.Term {
	kids := []api.Term{operand()}
	for p.Accept(symbol(op)) {
		kids = append(kids, operand())
	}
	if len(kids) == 1 {
		return kids[0]
	}
	return node(op, kids...)
}

func (p *parser) not() api.Term {
	if !p.Is(symbol(api.TNot)) {
		return p.cmp()
	}
	p.open()
	kid := p.not()
	p.shut()
	return node(api.TNot, kid)
}

func (p *parser) cmp() api.Term {
	t := p.sum()
	if op := p.operator(api.TEq, api.TNe, api.TLt, api.TLe); op != 0 {
		return node(op, t, p.sum())
	}
	return t
}

func (p *parser) sum() api.Term {
	t := p.prod()
	for {
		op := p.operator(api.TAdd, api.TSub)
		if op == 0 {
			return t
		}
		t = node(op, t, p.prod())
	}
}

func (p *parser) prod() api.Term {
	t := p.unit()
	for {
		op := p.operator(api.TMul, api.TMod)
		if op == 0 {
			return t
		}
		t = node(op, t, p.unit())
	}
}

func (p *parser) unit() api.Term {
	switch {
	case p.Peek().Kind == lexi.Num:
		return api.Term{Op: api.TNum, N: p.needKind(lexi.Num).N}
	case p.Accept(lexi.Sign, "-"):
		return api.Term{Op: api.TNum, N: -p.needKind(lexi.Num).N}
	case p.Accept(lexi.Word, "true"):
		return api.Term{Op: api.TBool, N: 1}
	case p.Accept(lexi.Word, "false"):
		return api.Term{Op: api.TBool}
	case p.Accept(lexi.Word, "next"):
		return p.next()
	case p.Is(lexi.Sign, "("):
		return p.group()
	case p.Is(lexi.Word, "if"):
		return p.choice()
	}
	return api.Term{Op: api.TName, Name: p.needKind(lexi.Name).Text}
}

// next reads what follows the keyword next.
func (p *parser) next() api.Term {
	p.need(lexi.Sign, "(")
	name := p.needKind(lexi.Name).Text
	p.need(lexi.Sign, ")")
	return api.Term{Op: api.TNext, Name: name}
}

// group reads a term in parentheses.
func (p *parser) group() api.Term {
	p.open()
	t := p.term()
	p.shut()
	p.need(lexi.Sign, ")")
	return t
}

// choice reads an if with its three terms.
func (p *parser) choice() api.Term {
	p.open()
	condition := p.term()
	p.need(lexi.Word, "then")
	yes := p.term()
	p.need(lexi.Word, "else")
	no := p.term()
	p.shut()
	return node(api.TIf, condition, yes, no)
}
