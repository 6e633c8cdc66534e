package modtext

import (
	"voussoir/api"
	"voussoir/ftext"
	"voussoir/lexi"
	"voussoir/tokens"
	"voussoir/ttext"
)

// Parse returns the module for which s stands, and len(s), or an error and its offset.
func Parse(s string) (m api.Module, at int, e api.Errno) {
	return tokens.Whole(s, take)
}

// take returns the module of the declarations from token i on, to the end of the list, or an error and the index of its token.
func take(l []lexi.Token, i int) (m api.Module, next int, e api.Errno) {
	p := parser{List: tokens.List{Tokens: l, At: i}}
	for p.fault == api.OK && p.At < len(l) {
		p.declaration()
	}
	if p.fault != api.OK {
		return api.Module{}, p.At, p.fault
	}
	return p.m, p.At, api.OK
}

// parser reads declarations from a list. After a fault it reads no more.
type parser struct {
	tokens.List
	m     api.Module
	fault api.Errno // at the next token
}

// declaration reads one declaration.
func (p *parser) declaration() {
	defer p.need(lexi.Sign, ";")
	switch m := &p.m; {
	case p.begins("var", len(m.Vars)):
		m.Vars = append(m.Vars, p.variable())
	case p.begins("def", len(m.Defs)):
		m.Defs = append(m.Defs, p.binding())
	case p.begins("init", len(m.Init)):
		m.Init = append(m.Init, p.term())
	case p.begins("invar", len(m.Invar)):
		m.Invar = append(m.Invar, p.term())
	case p.begins("next", len(m.Next)):
		m.Next = append(m.Next, p.binding())
	case p.begins("trans", len(m.Trans)):
		m.Trans = append(m.Trans, p.term())
	case p.begins("fair", len(m.Fair)):
		m.Fair = append(m.Fair, p.term())
	case p.begins("spec", len(m.Specs)):
		m.Specs = append(m.Specs, p.spec())
	default:
		p.fault = api.ErrSyntax
	}
}

// begins reads the next token if it is the keyword of a declaration of which there are many before it.
func (p *parser) begins(word string, many int) bool {
	yes := p.Is(lexi.Word, word)
	switch {
	case yes && many == api.MaxParts:
		p.fault = api.ErrMany
	case yes:
		p.At++
	}
	return yes
}

// need reads the next token, which must be that one.
func (p *parser) need(kind int, text string) {
	if p.fault == api.OK && !p.Accept(kind, text) {
		p.fault = api.ErrSyntax
	}
}

// needKind reads the next token, which must be of that kind, and returns it.
func (p *parser) needKind(kind int) (t lexi.Token) {
	if p.fault != api.OK {
		return t
	}
	t = p.Peek()
	if t.Kind != kind {
		p.fault = api.ErrSyntax
		return t
	}
	p.At++
	return t
}

// name reads a name and the sign that follows it.
func (p *parser) name(sign string) string {
	name := p.needKind(lexi.Name).Text
	p.need(lexi.Sign, sign)
	return name
}

// variable reads what follows the keyword of a variable.
func (p *parser) variable() (v api.Var) {
	v.Name = p.name(":")
	v.Bool = p.fault == api.OK && p.Accept(lexi.Word, "bool")
	if !v.Bool {
		v.Lo = p.number()
		p.need(lexi.Sign, "..")
		v.Hi = p.number()
	}
	return v
}

// number reads a number with its sign.
func (p *parser) number() int {
	if p.fault == api.OK && p.Accept(lexi.Sign, "-") {
		return -p.needKind(lexi.Num).N
	}
	return p.needKind(lexi.Num).N
}

// binding reads a name and its term.
func (p *parser) binding() api.Def {
	return api.Def{Name: p.name(":="), E: p.term()}
}

// spec reads a name and its formula.
func (p *parser) spec() api.Spec {
	return api.Spec{Name: p.name(":"), F: part(p, ftext.Take)}
}

// term reads a term.
func (p *parser) term() api.Term {
	return part(p, ttext.Take)
}

// part reads what take takes.
func part[T any](p *parser, take func(l []lexi.Token, i int) (T, int, api.Errno)) (x T) {
	if p.fault == api.OK {
		x, p.At, p.fault = take(p.Tokens, p.At)
	}
	return x
}
