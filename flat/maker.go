package flat

import (
	"cmp"
	"strconv"

	"bramble/api"
	"bramble/gram"
)

// maker makes a grammar plain. Of each symbol of Nons what makes its productions waits till its turn comes, as helpers get their numbers, and productions stand, in the order in which items are made.
type maker struct {
	made    api.Flat
	numbers map[string]int // of each name of the grammar, and of each literal as it is written, its symbol
	helpers int
	waiting []func()
}

// plain is a grammar in which nothing is wrong, made plain, however much that is.
func plain(g api.Gram) api.Flat {
	m := maker{numbers: map[string]int{}}
	for _, s := range Literals(g) {
		m.addTerm(written(s))
	}
	for _, t := range g.Tokens {
		m.addTerm(t.Name)
	}
	for _, r := range g.Rules {
		m.addNon(r.Name, func(rule int) { m.produce(rule, r.Body) })
	}
	for len(m.waiting) > 0 {
		next := m.waiting[0]
		m.waiting = m.waiting[1:]
		next()
	}
	return m.made
}

// written is a literal as gram.Text writes it: no name of a grammar is like that.
func written(literal string) string {
	return gram.Text(api.Gx{Op: api.GxLit, Name: literal})
}

func (m *maker) addTerm(name string) {
	m.numbers[name] = len(m.made.Terms)
	m.made.Terms = append(m.made.Terms, name)
}

// addNon is a new symbol of Nons, whose productions are to be made when its turn comes.
func (m *maker) addNon(name string, produce func(sym int)) int {
	sym := symbols(m.made)
	m.numbers[name] = sym
	m.made.Nons = append(m.made.Nons, name)
	m.waiting = append(m.waiting, func() { produce(sym) })
	return sym
}

// put takes a production more.
func (m *maker) put(left, prec int, items ...api.Item) {
	m.made.Prods = append(m.made.Prods, api.Prod{Left: left, Right: items, Prec: prec})
}

// produce makes a production of each alternative of a part.
func (m *maker) produce(left int, x api.Gx) {
	for alternative, prec := range alternatives(x) {
		m.put(left, prec, m.items(alternative)...)
	}
}

// items is the items of an alternative.
func (m *maker) items(x api.Gx) []api.Item {
	if x.Op != api.GxCat {
		return []api.Item{m.item(x)}
	}
	var l []api.Item
	for _, sub := range x.Subs {
		l = append(l, m.item(sub))
	}
	return l
}

// item is the item of a part, with the outermost Field and the outermost Alias that stand over its symbol.
func (m *maker) item(x api.Gx) api.Item {
	var i api.Item
	for ; x.Op == api.GxField || x.Op == api.GxAlias; x = x.Subs[0] {
		if x.Op == api.GxField {
			i.Field = cmp.Or(i.Field, x.Name)
		} else {
			i.Alias = cmp.Or(i.Alias, x.Name)
		}
	}
	i.Sym = m.symbol(x)
	return i
}

// symbol is the symbol that stands for a part: its own, or that of a new helper.
func (m *maker) symbol(x api.Gx) int {
	switch x.Op {
	case api.GxName:
		return m.numbers[x.Name]
	case api.GxLit:
		return m.numbers[written(x.Name)]
	}
	m.helpers++
	return m.addNon(helperSign+strconv.Itoa(m.helpers), func(helper int) { m.help(helper, x) })
}

// help makes the productions of a helper by the part that it helps.
func (m *maker) help(helper int, x api.Gx) {
	switch x.Op {
	case api.GxStar:
		m.put(helper, 0)
		m.put(helper, 0, api.Item{Sym: helper}, m.item(x.Subs[0]))
	case api.GxPlus:
		once := m.item(x.Subs[0])
		m.put(helper, 0, once)
		m.put(helper, 0, api.Item{Sym: helper}, once)
	case api.GxOpt:
		m.put(helper, 0)
		m.produce(helper, x.Subs[0])
	default:
		m.produce(helper, x)
	}
}
