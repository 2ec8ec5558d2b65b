package gram

import "bramble/api"

// reader reads a body sign by sign; it looks at one that is read and not yet taken. Where it can't go on it gives up by panic with an api.Fault.
type reader struct {
	sign
	s     string
	next  int // where the text goes on behind the sign
	depth int // parentheses that are open
}

// misplaced gives up at the sign that may not stand there, or where the text may not end.
func (r *reader) misplaced() {
	if r.kind == signEnd {
		fail(api.ErrShort, r.at)
	}
	fail(api.ErrForm, r.at)
}

// body reads a whole text.
func (r *reader) body() api.Gx {
	r.advance()
	x := r.alternatives()
	if r.kind != signEnd {
		r.misplaced()
	}
	if size(x) > api.MaxExprs {
		fail(api.ErrMany, 0)
	}
	return x
}

func (r *reader) alternatives() api.Gx {
	l := []api.Gx{r.alternative()}
	for r.kind == '|' {
		r.advance()
		l = append(l, r.alternative())
	}
	return together(api.GxAlt, l)
}

func (r *reader) alternative() api.Gx {
	if r.kind != signPrec {
		return r.items()
	}
	num := r.num
	r.advance()
	return api.Gx{Op: api.GxPrec, Num: num, Subs: []api.Gx{r.items()}}
}

func (r *reader) items() api.Gx {
	var l []api.Gx
	for r.kind == signName || r.kind == signLiteral || r.kind == '(' {
		l = append(l, r.item())
	}
	return together(api.GxCat, l)
}

func (r *reader) item() api.Gx {
	x := r.unit()
	if r.kind != '=' {
		return x
	}
	r.advance()
	if r.kind != signName {
		r.misplaced()
	}
	return over(api.GxAlias, r.taken(), x)
}

// unit reads a unit. Only the sign behind a name tells whether that is a field's.
func (r *reader) unit() api.Gx {
	if r.kind != signName {
		return r.repeated(r.core())
	}
	name := r.taken()
	if r.kind != ':' {
		return r.repeated(api.Gx{Op: api.GxName, Name: name})
	}
	r.advance()
	return over(api.GxField, name, r.repeated(r.core()))
}

// repeated reads how often a core stands.
func (r *reader) repeated(x api.Gx) api.Gx {
	op := 0
	switch r.kind {
	case '*':
		op = api.GxStar
	case '+':
		op = api.GxPlus
	case '?':
		op = api.GxOpt
	default:
		return x
	}
	r.advance()
	return over(op, "", x)
}

func (r *reader) core() api.Gx {
	switch r.kind {
	case signName:
		return api.Gx{Op: api.GxName, Name: r.taken()}
	case signLiteral:
		return api.Gx{Op: api.GxLit, Name: r.taken()}
	case '(':
		return r.group()
	}
	r.misplaced()
	return api.Gx{}
}

// taken is the text of the sign, which is taken.
func (r *reader) taken() string {
	text := r.text
	r.advance()
	return text
}

// group reads alternatives in parentheses.
func (r *reader) group() api.Gx {
	if r.depth == api.MaxDepth {
		fail(api.ErrDeep, r.at)
	}
	r.depth++
	r.advance()
	x := r.alternatives()
	if r.kind != ')' {
		r.misplaced()
	}
	r.depth--
	r.advance()
	return x
}

// together is one part of some; one alone is itself.
func together(op int, l []api.Gx) api.Gx {
	if len(l) == 1 {
		return l[0]
	}
	return api.Gx{Op: op, Subs: l}
}

// over is a part of a kind with one sub.
func over(op int, name string, sub api.Gx) api.Gx {
	return api.Gx{Op: op, Name: name, Subs: []api.Gx{sub}}
}
