package vm

import "bramble/api"

// none stands where there is no token.
const none = -1

// machine is a program that runs.
type machine struct {
	prog  []api.Ins
	next  int    // the operation that comes next
	rest  string // the text from the place on at which it began
	taken int    // bytes of the token so far
	seen  int    // bytes that were looked at, the end of the text as one
	state byte   // a byte, since it wraps round at 256
	found bool
}

// operations is what each kind does.
func operations() [api.NumIns]func(*machine, api.Ins) {
	return [api.NumIns]func(*machine, api.Ins){
		api.InChar: (*machine).char,
		api.InIs:   (*machine).is,
		api.InSet:  (*machine).set,
		api.InAdd:  (*machine).add,
		api.InGoto: (*machine).jump,
		api.InYes:  (*machine).yes,
		api.InNo:   (*machine).no,
	}
}

// run runs the program from its first operation on, which must be fit.
func (m *machine) run() {
	do := operations()
	for range api.MaxFuel {
		if m.found || m.next == len(m.prog) {
			return
		}
		x := m.prog[m.next]
		m.next++
		do[x.Op](m, x)
	}
}

func (m *machine) char(x api.Ins) {
	m.seen = m.taken + 1
	if m.taken == len(m.rest) {
		m.next = x.Z
		return
	}
	if c := int(m.rest[m.taken]); c < x.X || c > x.Y {
		m.next = x.Z
		return
	}
	m.taken++
}

func (m *machine) is(x api.Ins) {
	if int(m.state) != x.X {
		m.next = x.Z
	}
}

func (m *machine) set(x api.Ins) {
	m.state = byte(x.X)
}

func (m *machine) add(x api.Ins) {
	m.state += byte(x.X)
}

func (m *machine) jump(x api.Ins) {
	m.next = x.Z
}

func (m *machine) yes(api.Ins) {
	m.found = true
}

// no ends as a program does that goes on behind its last operation.
func (m *machine) no(api.Ins) {
	m.next = len(m.prog)
}
