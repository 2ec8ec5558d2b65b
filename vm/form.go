package vm

import (
	"strconv"

	"bramble/api"
)

const (
	maxProgram = 64  // operations
	maxByte    = 255 // of bytes, and of states
)

// form is what an operation of a kind is made of: its word, and which of the numbers it uses.
type form struct {
	word    string
	x, y, z bool
}

// forms are those of the kinds; 0 is none.
var forms = [api.NumIns]form{
	api.InChar: {word: "char", x: true, y: true, z: true},
	api.InIs:   {word: "is", x: true, z: true},
	api.InSet:  {word: "set", x: true},
	api.InAdd:  {word: "add", x: true},
	api.InGoto: {word: "goto", z: true},
	api.InYes:  {word: "yes"},
	api.InNo:   {word: "no"},
}

// fitIns tells whether an operation can be one of a program of that many.
func fitIns(x api.Ins, many int) bool {
	if x.Op < api.InChar || x.Op >= api.NumIns {
		return false
	}
	f := forms[x.Op]
	if f.y && x.X > x.Y {
		return false
	}
	return fitNumber(f.x, x.X, maxByte) && fitNumber(f.y, x.Y, maxByte) && fitNumber(f.z, x.Z, many)
}

// fitNumber tells whether a number of an operation is from 0 to the greatest one; if it is not used that is 0.
func fitNumber(used bool, n, most int) bool {
	if !used {
		most = 0
	}
	return 0 <= n && n <= most
}

// written is an operation as a text.
func written(x api.Ins) string {
	f := forms[x.Op]
	s := f.word
	if f.x {
		s += " " + strconv.Itoa(x.X)
	}
	if f.y {
		s += " " + strconv.Itoa(x.Y)
	}
	if f.z {
		s += " " + strconv.Itoa(x.Z)
	}
	return s
}
