package gram

import (
	"iter"
	"strings"

	"bramble/api"
	"bramble/rex"
	"bramble/vm"
)

// The words with which lines begin.
const (
	wordGrammar  = "grammar"
	wordToken    = "token"
	wordSkip     = "skip"
	wordScan     = "scan"
	wordSkipscan = "skipscan"
	wordRule     = "rule"
)

// isWord tells whether a line can begin with a word.
func isWord(w string) bool {
	switch w {
	case wordGrammar, wordToken, wordSkip, wordScan, wordSkipscan, wordRule:
		return true
	}
	return false
}

// wordOf is the word with which a token's line begins.
func wordOf(t api.Token) string {
	switch {
	case len(t.Prog) == 0 && t.Skip:
		return wordSkip
	case len(t.Prog) == 0:
		return wordToken
	case t.Skip:
		return wordSkipscan
	}
	return wordScan
}

// textOf is the text of a token's expression, or of its program.
func textOf(t api.Token) string {
	if len(t.Prog) == 0 {
		return rex.Print(t.Rex)
	}
	return vm.Print(t.Prog)
}

// lines hands out the lines of a text that say something, each with its number.
func lines(s string) iter.Seq2[int, string] {
	return func(yield func(int, string) bool) {
		rest, more := s, true
		for number := 1; more; number++ {
			var line string
			line, rest, more = strings.Cut(rest, "\n")
			if line == "" || line[0] == '#' {
				continue
			}
			if !yield(number, line) {
				return
			}
		}
	}
}

// maker is a grammar that grows line by line. Where it can't go on it gives up by panic with an api.Fault.
type maker struct {
	api.Gram
	parts int // of all Bodies
}

// take takes a line.
func (m *maker) take(line string) {
	word, rest, ok := strings.Cut(line, " ")
	// A name is never empty: the grammar has one just if its line has been met.
	if !isWord(word) || (word == wordGrammar) != (m.Name == "") {
		fail(api.ErrForm, 0)
	}
	if !ok {
		fail(api.ErrShort, len(line))
	}
	name, what, ok := strings.Cut(rest, " ")
	from := len(word) + 1
	if !Name(name) {
		fail(api.ErrForm, from)
	}
	behind := from + len(name)
	if word == wordGrammar {
		if ok {
			fail(api.ErrForm, behind)
		}
		m.Name = name
		return
	}
	if !ok {
		fail(api.ErrShort, len(line))
	}
	m.add(word, name, what, behind+1)
}

// add adds a token or a rule of a name; what it is stands in the line from a place on.
func (m *maker) add(word, name, what string, at int) {
	switch word {
	case wordRule:
		m.addRule(name, what, at)
	case wordToken, wordSkip:
		checkRoom(len(m.Tokens))
		x, f := rex.Parse(what)
		pass(f, at)
		m.Tokens = append(m.Tokens, api.Token{Name: name, Rex: x, Skip: word == wordSkip})
	case wordScan, wordSkipscan:
		checkRoom(len(m.Tokens))
		p, f := vm.Parse(what)
		pass(f, at)
		m.Tokens = append(m.Tokens, api.Token{Name: name, Prog: p, Skip: word == wordSkipscan})
	}
}

func (m *maker) addRule(name, what string, at int) {
	checkRoom(len(m.Rules))
	x, f := Body(what)
	pass(f, at)
	m.parts += size(x)
	if m.parts > api.MaxExprs {
		fail(api.ErrMany, 0)
	}
	m.Rules = append(m.Rules, api.Rule{Name: name, Body: x})
}

// checkRoom gives up if there are as many tokens, or rules, as there may be.
func checkRoom(many int) {
	if many == api.MaxRules {
		fail(api.ErrMany, 0)
	}
}

// pass gives up with the fault of a text that stands in the line from a place on, if there is one.
func pass(f api.Fault, at int) {
	if f.Err != api.OK {
		fail(f.Err, at+f.At)
	}
}

// end gives up if a text of so many bytes has said too little. Without a line grammar there is no rule either.
func (m *maker) end(length int) {
	if len(m.Rules) == 0 {
		fail(api.ErrShort, length)
	}
}
