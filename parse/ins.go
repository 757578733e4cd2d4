package parse

import (
	"paling/api"
	"paling/ins"
	"paling/names"
)

// insLine reads a line of labels, or of an instruction, or of both.
func (r *reader) insLine() api.Fault {
	if len(r.threads) == 0 {
		return told(api.ErrForm, r.look())
	}
	t := &r.threads[len(r.threads)-1]
	if fault := r.labels(t); fault.Code != api.OK {
		return fault
	}
	if r.look().Kind != api.TEnd {
		if fault := r.instruction(t); fault.Code != api.OK {
			return fault
		}
	}
	return r.end()
}

// labels takes the labels that come, for the next instruction of t.
func (r *reader) labels(t *thread) api.Fault {
	for r.atLabel() {
		name, fault := r.name()
		if fault.Code != api.OK {
			return fault
		}
		if t.labels[name.Text] {
			return told(api.ErrDup, name)
		}
		t.labels[name.Text] = true
		t.waiting = append(t.waiting, name.Text)
		r.next++ // the colon
	}
	return api.Fault{}
}

// atLabel tells whether a label comes; behind a word there is always another token, the line's end if nothing else.
func (r *reader) atLabel() bool {
	return r.look().Kind == api.TWord && isSign(r.tokens[r.next+1], ":")
}

// instruction takes one, up to the line's end, and puts it into t.
func (r *reader) instruction(t *thread) api.Fault {
	first := r.look()
	i, fault := r.op()
	if fault.Code != api.OK {
		return fault
	}
	switch i.Op {
	case api.Jmp, api.Jcc:
		i.To, fault = r.aim(t)
	case api.Mfence, api.Nop, api.Hlt:
	default:
		i, fault = r.operands(i)
	}
	if fault.Code != api.OK {
		return fault
	}
	t.add(i, first)
	return api.Fault{}
}

// aim takes the name to which an instruction of t jumps; the label may stand further on, so it is looked for at the end.
func (r *reader) aim(t *thread) (string, api.Fault) {
	name, fault := r.name()
	if fault.Code != api.OK {
		return "", fault
	}
	t.aims = append(t.aims, name)
	return name.Text, api.Fault{}
}

// add puts i, the first word of which is given, behind the instructions of t, with the labels that wait for it.
func (t *thread) add(i api.Ins, first api.Token) {
	if i.Op != api.Mfence {
		if t.count == api.MaxIns {
			t.beyond = first
		}
		t.count++
	}
	i.Labels = t.waiting
	// The list is the instruction's from now on: the next one needs memory of its own.
	t.waiting = nil
	t.ins = append(t.ins, i)
}

// op takes the words that say what an instruction does, which is all that is told of it then.
func (r *reader) op() (api.Ins, api.Fault) {
	t := r.take()
	lock := isWord(t, "lock")
	if lock {
		t = r.take()
	}
	// Just words have an Op, so that the token's kind need not be asked.
	op, cond, ok := names.Op(t.Text)
	if !ok || !stands(op, lock) {
		return api.Ins{}, told(api.ErrForm, t)
	}
	return api.Ins{Op: op, Lock: lock, Cond: cond}, api.Fault{}
}

// stands tells whether op may stand behind a lock, or where there is none.
func stands(op int, lock bool) bool {
	switch op {
	case api.Add, api.Sub, api.And, api.Or, api.Xor:
		return true
	case api.Cmpxchg:
		return lock
	}
	return !lock
}

// operands takes both operands of i, and the comma between.
func (r *reader) operands(i api.Ins) (api.Ins, api.Fault) {
	first := r.look()
	a, fault := r.operand()
	if fault.Code != api.OK {
		return i, fault
	}
	i.A = a
	// Whatever may be A, a register may be B beside it: so a register tells whether A may be at all.
	i.B = api.Opd{Kind: api.KReg}
	if ins.Right(i) != api.OK {
		return i, told(api.ErrForm, first)
	}
	if fault := r.sign(","); fault.Code != api.OK {
		return i, fault
	}
	second := r.look()
	i.B, fault = r.operand()
	if fault.Code != api.OK {
		return i, fault
	}
	if ins.Right(i) != api.OK {
		return i, told(api.ErrForm, second)
	}
	return i, api.Fault{}
}

// operand takes one, whether it may stand there or not.
func (r *reader) operand() (api.Opd, api.Fault) {
	t := r.look()
	if t.Kind == api.TNum {
		return api.Opd{Kind: api.KNum, N: number(r.take())}, api.Fault{}
	}
	if reg, ok := names.Reg(t.Text); ok {
		r.take()
		return api.Opd{Kind: api.KReg, Reg: reg}, api.Fault{}
	}
	return r.memory()
}

// memory takes an operand that is a cell of a symbol.
func (r *reader) memory() (api.Opd, api.Fault) {
	name, fault := r.name()
	if fault.Code != api.OK {
		return api.Opd{}, fault
	}
	sym := r.find(name.Text)
	if sym < 0 {
		return api.Opd{}, told(api.ErrNone, name)
	}
	if fault := r.sign("["); fault.Code != api.OK {
		return api.Opd{}, fault
	}
	o, fault := r.cell(sym)
	if fault.Code != api.OK {
		return api.Opd{}, fault
	}
	return o, r.sign("]")
}

// cell takes what tells the cell of sym.
func (r *reader) cell(sym int) (api.Opd, api.Fault) {
	t := r.take()
	if reg, ok := names.Reg(t.Text); ok {
		return api.Opd{Kind: api.KBy, Sym: sym, Reg: reg}, api.Fault{}
	}
	if t.Kind != api.TNum {
		return api.Opd{}, told(api.ErrForm, t)
	}
	n := number(t)
	if n < 0 || n >= int64(r.syms[sym].Size) {
		return api.Opd{}, told(api.ErrPlace, t)
	}
	return api.Opd{Kind: api.KAt, Sym: sym, N: n}, api.Fault{}
}
