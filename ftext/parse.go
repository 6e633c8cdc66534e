package ftext

import (
	"voussoir/api"
	"voussoir/forms"
	"voussoir/lexi"
	"voussoir/tokens"
	"voussoir/ttext"
)

// deepest is the nesting depth at which nothing more can be opened.
const deepest = 4 * api.MaxDeep

// Parse returns the valid formula for which s stands, and len(s), or an error and its offset.
func Parse(s string) (f api.Form, at int, e api.Errno) {
	return tokens.Whole(s, Take)
}

// Take returns the valid formula that begins at token i and the index of the token after it, or an error and the index of its token.
func Take(l []lexi.Token, i int) (f api.Form, next int, e api.Errno) {
	if i < 0 || i > len(l) {
		return api.Form{}, 0, api.ErrRange
	}
	p := parser{List: tokens.List{Tokens: l, At: i}}
	defer func() {
		switch fault := recover().(type) {
		case nil:
		case api.Errno:
			f, next, e = api.Form{}, p.At, fault
		default:
			panic(fault)
		}
	}()
	f = p.form()
	if e := forms.Check(f); e != api.OK {
		return api.Form{}, i, e
	}
	return f, p.At, api.OK
}

// parser reads formulas from a list. It panics with the error if the next token is not allowed.
type parser struct {
	tokens.List
	depth int // the nesting depth of the next token
}

// need reads the next token, which must be that one.
func (p *parser) need(kind int, text string) {
	if !p.Accept(kind, text) {
		panic(api.ErrSyntax)
	}
}

// open reads the next token, which encloses what is read until shut is called.
func (p *parser) open() {
	if p.depth == deepest {
		panic(api.ErrDeep)
	}
	p.At++
	p.depth++
}

func (p *parser) shut() {
	p.depth--
}

func node(op int, kids ...api.Form) api.Form {
	return api.Form{Op: op, Kids: kids}
}

func (p *parser) form() api.Form {
	f := p.or()
	if !p.Is(symbol(api.FImp)) {
		return f
	}
	p.open()
	right := p.form()
	p.shut()
	return node(api.FImp, f, right)
}

func (p *parser) or() api.Form {
	return p.chain(api.FOr, p.and)
}

func (p *parser) and() api.Form {
	return p.chain(api.FAnd, p.unit)
}

// chain reads operands with the operator between them; it associates to the left.
func (p *parser) chain(op int, operand func() api.Form) api.Form {
	f := operand()
	for p.Accept(symbol(op)) {
		f = node(op, f, operand())
	}
	return f
}

func (p *parser) unit() api.Form {
	for op := api.FNot; op <= api.FAU; op++ {
		if read := p.operands(op); read != nil && p.Is(symbol(op)) {
			p.open()
			kids := read()
			p.shut()
			return node(op, kids...)
		}
	}
	if p.Is(lexi.Sign, "(") {
		return p.group()
	}
	return p.term()
}

// operands returns what reads the operands that follow an operator; it returns nil for an operator that stands between them.
func (p *parser) operands(op int) func() []api.Form {
	switch op {
	case api.FAnd, api.FOr, api.FImp:
		return nil
	case api.FEU, api.FAU:
		return p.pair
	}
	return p.single
}

// single reads one operand.
func (p *parser) single() []api.Form {
	return []api.Form{p.unit()}
}

// pair reads two operands in brackets.
func (p *parser) pair() []api.Form {
	p.need(lexi.Sign, "[")
	left := p.form()
	p.need(lexi.Word, "U")
	right := p.form()
	p.need(lexi.Sign, "]")
	return []api.Form{left, right}
}

// group reads a formula in parentheses.
func (p *parser) group() api.Form {
	p.open()
	f := p.form()
	p.shut()
	p.need(lexi.Sign, ")")
	return f
}

// term reads a term in brackets.
func (p *parser) term() api.Form {
	p.need(lexi.Sign, "[")
	t, next, e := ttext.Take(p.Tokens, p.At)
	p.At = next
	if e != api.OK {
		panic(e)
	}
	p.need(lexi.Sign, "]")
	return api.Form{Op: api.FTerm, E: t}
}
