package lex

import (
	"slices"

	"bramble/api"
	"bramble/dfa"
	"bramble/flat"
	"bramble/nfa"
	"bramble/rex"
)

// maker is a lexer that is made: rexes are the expressions of the terminals in Of.
type maker struct {
	api.Lexer
	rexes []api.Rex
}

// makerOf has the terminals of a grammar in which nothing is wrong, but no machine yet.
func makerOf(g api.Gram) maker {
	var m maker
	for _, s := range flat.Literals(g) {
		// A literal has at least one byte, all of which are letters.
		x, _ := rex.Plain(s)
		m.add(api.Token{Rex: x})
	}
	for _, t := range g.Tokens {
		m.add(t)
	}
	return m
}

// add takes the next terminal.
func (m *maker) add(t api.Token) {
	term := len(m.Skip)
	m.Skip = append(m.Skip, t.Skip)
	if len(t.Prog) > 0 {
		m.Scans = append(m.Scans, term)
		m.Progs = append(m.Progs, slices.Clone(t.Prog))
		return
	}
	m.Of = append(m.Of, term)
	m.rexes = append(m.rexes, t.Rex)
}

// machineOf is the machine that accepts the places of expressions.
func machineOf(l []api.Rex) (api.Dfa, api.Errno) {
	if len(l) == 0 {
		return api.Dfa{States: []api.Dstate{{Accept: none}}}, api.OK
	}
	m, err := nfa.Build(l)
	if err != api.OK {
		return api.Dfa{}, api.ErrMany
	}
	d, err := dfa.Of(m)
	if err != api.OK {
		return api.Dfa{}, api.ErrMany
	}
	return d, api.OK
}
