package machine

import (
	"pleat/api"
	"pleat/word"
)

const ops = int(api.Halt) + 1

// fault is what a step gives up with, and nobody else panics with.
type fault int8

// deed is what an op does: it tells the place at which the machine stands then. One that faults gives up ahead of any change: so a faulting step leaves nothing to be undone.
type deed func(m *Machine, i api.Ins) int

func deeds() [ops]deed {
	return [ops]deed{
		api.Trap:  (*Machine).trap,
		api.Set:   (*Machine).set,
		api.Move:  (*Machine).move,
		api.Add:   (*Machine).calc,
		api.Sub:   (*Machine).calc,
		api.Mul:   (*Machine).calc,
		api.And:   (*Machine).calc,
		api.Or:    (*Machine).calc,
		api.Xor:   (*Machine).calc,
		api.Less:  (*Machine).calc,
		api.Same:  (*Machine).calc,
		api.Load:  (*Machine).load,
		api.Store: (*Machine).store,
		api.In:    (*Machine).in,
		api.Out:   (*Machine).out,
		api.Jump:  (*Machine).jump,
		api.Zero:  (*Machine).zero,
		api.Call:  (*Machine).call,
		api.Calls: (*Machine).calls,
		api.Go:    (*Machine).goTo,
		api.Place: (*Machine).place,
		api.Halt:  (*Machine).halt,
	}
}

// here tells the instruction at which m stands; behind the text's end a Trap, as both are FaultEnd.
func (m *Machine) here() api.Ins {
	if m.at >= len(m.text) {
		return api.Ins{Op: api.Trap}
	}
	return m.text[m.at]
}

// do does i, and tells the place at which m stands then.
func (m *Machine) do(i api.Ins) int {
	if i.Op < 0 {
		panic(fault(api.FaultIns))
	}
	return deeds()[i.Op](m, i)
}

// raise gives up with why, if that is a fault.
func raise(why int8) {
	if why != api.Running {
		panic(fault(why))
	}
}

// number tells the number that the register r holds, which is to be a plain one.
func (m *Machine) number(r int8) int64 {
	w := m.registers[r]
	if w.Code {
		panic(fault(api.FaultSeal))
	}
	return w.V
}

// goal tells the place that the register r holds, which is to be a sealed one.
func (m *Machine) goal(r int8) int {
	w := m.registers[r]
	if !w.Code {
		panic(fault(api.FaultSeal))
	}
	return int(w.V)
}

// address tells the address A + N, which is to be one of the memory.
func (m *Machine) address(i api.Ins) int {
	address, why := word.Address(m.registers[i.A], i.N, len(m.memory))
	raise(why)
	return address
}

// put makes w what the register r holds, and tells the next place.
func (m *Machine) put(r int8, w api.Word) int {
	m.registers[r] = w
	return m.at + 1
}

// link makes the next place what the link register holds.
func (m *Machine) link() { m.registers[api.Link] = word.Sealed(m.at + 1) }

func (m *Machine) trap(api.Ins) int { panic(fault(api.FaultEnd)) }

func (m *Machine) set(i api.Ins) int { return m.put(i.D, word.Plain(i.N)) }

func (m *Machine) move(i api.Ins) int { return m.put(i.D, m.registers[i.A]) }

func (m *Machine) calc(i api.Ins) int {
	w, why := word.Calc(i.Op, m.registers[i.A], m.registers[i.B])
	raise(why)
	return m.put(i.D, w)
}

func (m *Machine) load(i api.Ins) int { return m.put(i.D, m.memory[m.address(i)]) }

func (m *Machine) store(i api.Ins) int {
	m.memory[m.address(i)] = m.registers[i.B]
	return m.at + 1
}

func (m *Machine) in(i api.Ins) int {
	if m.taken == len(m.tape) {
		return m.put(i.D, word.Plain(0))
	}
	m.taken++
	return m.put(i.D, word.Plain(m.tape[m.taken-1]))
}

func (m *Machine) out(i api.Ins) int {
	m.ports = append(m.ports, api.Port{N: i.N, V: m.number(i.A)})
	return m.at + 1
}

func (m *Machine) jump(i api.Ins) int { return int(i.N) }

func (m *Machine) zero(i api.Ins) int {
	if m.number(i.A) == 0 {
		return int(i.N)
	}
	return m.at + 1
}

func (m *Machine) call(i api.Ins) int {
	m.link()
	return int(i.N)
}

func (m *Machine) calls(i api.Ins) int {
	// A may be the link register itself: so it is read ahead.
	to := m.goal(i.A)
	m.link()
	return to
}

func (m *Machine) goTo(i api.Ins) int { return m.goal(i.A) }

func (m *Machine) place(i api.Ins) int { return m.put(i.D, word.Sealed(int(i.N))) }

func (m *Machine) halt(api.Ins) int {
	m.status = api.Halted
	return m.at
}
