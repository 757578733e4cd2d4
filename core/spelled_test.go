package core

import (
	"math"
	"slices"
	"testing"

	"paling/api"
	"paling/valid"
	"paling/word"
)

var toXor = []int{api.Add, api.Sub, api.And, api.Or, api.Xor}

// operands are all registers; some numbers; and some cells, told by numbers and by registers.
func operands() (registers, numbers, memories []api.Opd) {
	for r := range 8 {
		registers = append(registers, api.Opd{Kind: api.KReg, Reg: r})
	}
	for _, n := range []int64{0, 1, -1, least, greatest} {
		numbers = append(numbers, api.Opd{Kind: api.KNum, N: n})
	}
	memories = []api.Opd{
		{Kind: api.KAt}, {Kind: api.KAt, N: 1}, {Kind: api.KAt, Sym: 1, N: 2}, {Kind: api.KAt, Sym: 2},
		{Kind: api.KBy}, {Kind: api.KBy, Reg: 1}, {Kind: api.KBy, Sym: 1, Reg: 7}, {Kind: api.KBy, Sym: 2, Reg: 2},
	}
	return registers, numbers, memories
}

// crossed are the instructions with each of these Ops, A, B and Lock.
func crossed(ops []int, as, bs []api.Opd, locks ...bool) []api.Ins {
	var out []api.Ins
	for _, op := range ops {
		for _, a := range as {
			for _, b := range bs {
				for _, lock := range locks {
					out = append(out, api.Ins{Op: op, Lock: lock, A: a, B: b})
				}
			}
		}
	}
	return out
}

// forms are instructions of each row of the document's table, with all these operands; the first is a Hlt, the last a Jmp.
func forms() []api.Ins {
	registers, numbers, memories := operands()
	plains := slices.Concat(registers, numbers)
	out := slices.Concat(
		[]api.Ins{{Op: api.Hlt}, {Op: api.Nop}, {Op: api.Mfence}, {Op: api.Jmp, To: "up"}, {Op: api.Jmp, To: "mid"}},
		crossed([]int{api.Mov, api.Cmp}, registers, slices.Concat(plains, memories), false),
		crossed([]int{api.Mov, api.Cmp}, memories, plains, false),
		crossed(toXor, registers, slices.Concat(plains, memories), false),
		crossed(toXor, memories, plains, false, true),
		crossed([]int{api.Xchg}, memories, registers, false),
		crossed([]int{api.Cmpxchg}, memories, registers, true))
	for cond := api.E; cond <= api.Ae; cond++ {
		for _, to := range []string{"up", "mid", "down"} {
			out = append(out, api.Ins{Op: api.Jcc, Cond: cond, To: to})
		}
	}
	return append(out, api.Ins{Op: api.Jmp, To: "down"})
}

// whole has a thread of all forms, and one of them the other way round, with labels at the first, a middle and the last place.
func whole() api.Prog {
	p := api.Prog{Syms: []api.Sym{{Name: "x", Size: 2, Init: []int64{7}}, {Name: "y", Size: 3}, {Name: "z", Size: 1}}}
	for k := range 2 {
		list := forms()
		if k == 1 {
			slices.Reverse(list)
		}
		list[0].Labels = []string{"up"}
		list[1000+k].Labels = []string{"a", "mid"}
		list[len(list)-1].Labels = []string{"down", "b"}
		p.Threads = append(p.Threads, api.Thread{Ins: list})
	}
	return p
}

func isMem(o api.Opd) bool { return o.Kind == api.KAt || o.Kind == api.KBy }

func has(o api.Opd, x api.Thr) int64 {
	switch o.Kind {
	case api.KReg:
		return x.Regs[o.Reg]
	case api.KNum:
		return o.N
	}
	return 0
}

// spelledCell is the cell of o; false, if its symbol has no such one.
func spelledCell(p api.Prog, o api.Opd, x api.Thr) (int, bool) {
	n := o.N
	if o.Kind == api.KBy {
		n = x.Regs[o.Reg]
	}
	base := 0
	for _, s := range p.Syms[:o.Sym] {
		base += s.Size
	}
	return base + int(n), n >= 0 && n < int64(p.Syms[o.Sym].Size)
}

// spelledNext is P1402, sentence by sentence, of the instruction i.
func spelledNext(p api.Prog, i api.Ins, x api.Thr) api.Deed {
	unlocked := isMem(i.A) && slices.Contains(toXor, i.Op) && !i.Lock
	if x.Status != api.Running || x.Phase != 0 && !(x.Phase == 1 && unlocked) {
		return api.Deed{}
	}
	if !isMem(i.A) && !isMem(i.B) {
		if i.Op == api.Mfence {
			return deed(api.DFence, 0, 0)
		}
		return deed(api.DLocal, 0, 0)
	}
	o := i.A
	if isMem(i.B) {
		o = i.B
	}
	cell, ok := spelledCell(p, o, x)
	switch {
	case !ok:
		return deed(api.DTrap, 0, 0)
	case x.Phase == 1:
		n, _, _ := word.Do(i.Op, x.Latch, has(i.B, x))
		return deed(api.DStore, cell, n)
	case i.Lock || i.Op == api.Xchg:
		return deed(api.DLocked, cell, 0)
	case i.Op == api.Mov && isMem(i.A):
		return deed(api.DStore, cell, has(i.B, x))
	}
	return deed(api.DLoad, cell, 0)
}

// spelledLocal is P1403, sentence by sentence, of the instruction i of thread th, whose deed is of that kind.
func spelledLocal(th api.Thread, i api.Ins, kind int, x api.Thr) api.Thr {
	next := with(x, pc(x.PC+1))
	n, f, reckons := word.Do(i.Op, has(i.A, x), has(i.B, x))
	switch {
	case kind == api.DNone || kind == api.DLoad || kind == api.DLocked:
		return x
	case kind == api.DTrap:
		return with(x, status(api.Trapped))
	case i.Op == api.Hlt:
		return with(x, status(api.Halted))
	case i.Op == api.Jmp, i.Op == api.Jcc && word.Holds(i.Cond, x.Flags):
		return with(x, pc(slices.IndexFunc(th.Ins, func(j api.Ins) bool { return slices.Contains(j.Labels, i.To) })))
	case kind == api.DStore && x.Phase == 1:
		_, next.Flags, _ = word.Do(i.Op, x.Latch, has(i.B, x))
		return with(next, phase(0), latch(0))
	case kind == api.DStore || !reckons && i.Op != api.Mov:
		return next
	case i.Op == api.Mov:
		return with(next, reg(i.A.Reg, has(i.B, x)))
	case i.Op == api.Cmp:
		n = has(i.A, x)
	}
	next.Flags = f
	return with(next, reg(i.A.Reg, n))
}

// spelledLoaded is P1404, sentence by sentence, of the instruction i, whose deed is of that kind.
func spelledLoaded(i api.Ins, kind int, x api.Thr, v int64) api.Thr {
	next := with(x, pc(x.PC+1))
	switch {
	case kind != api.DLoad:
		return x
	case i.Op == api.Mov:
		return with(next, reg(i.A.Reg, v))
	case i.Op == api.Cmp && isMem(i.A):
		_, next.Flags, _ = word.Do(api.Cmp, v, has(i.B, x))
		return next
	case i.Op == api.Cmp:
		_, next.Flags, _ = word.Do(api.Cmp, has(i.A, x), v)
		return next
	case isMem(i.A):
		return with(x, phase(1), latch(v))
	}
	n, f, _ := word.Do(i.Op, has(i.A, x), v)
	next.Flags = f
	return with(next, reg(i.A.Reg, n))
}

// spelledSwap is P1405, sentence by sentence, of the instruction i, whose deed is of that kind.
func spelledSwap(i api.Ins, kind int, x api.Thr, v int64) swapped {
	if kind != api.DLocked {
		return swapped{x: x}
	}
	next := with(x, pc(x.PC+1))
	switch {
	case i.Op == api.Xchg:
		return swapped{with(next, reg(i.B.Reg, v)), has(i.B, x), true}
	case i.Op != api.Cmpxchg:
		n, f, _ := word.Do(i.Op, v, has(i.B, x))
		next.Flags = f
		return swapped{next, n, true}
	}
	_, next.Flags, _ = word.Do(api.Cmp, x.Regs[0], v)
	if x.Regs[0] == v {
		return swapped{next, has(i.B, x), true}
	}
	return swapped{with(next, reg(0, v)), 0, false}
}

// wantSpelled holds all that c, of the program p, tells against the promises.
func wantSpelled(t *testing.T, c *Core, p api.Prog, thread int, x api.Thr) {
	t.Helper()
	i := p.Threads[thread].Ins[x.PC]
	d := spelledNext(p, i, x)
	wantNext(t, c, "an instruction", thread, x, d)
	wantLocal(t, c, "an instruction", thread, x, spelledLocal(p.Threads[thread], i, d.Kind, x))
	for _, v := range []int64{0, -1, least, greatest, x.Regs[0]} {
		wantLoaded(t, c, "an instruction", thread, x, v, spelledLoaded(i, d.Kind, x, v))
		wantSwap(t, c, "an instruction", thread, x, v, spelledSwap(i, d.Kind, x, v))
	}
}

// rows of registers: with some of them the cells that a register tells are there.
var rows = [][8]int64{
	{},
	{0, 1, 0, 3, 4, 5, 6, 2},
	{1, 0, 1, -1, least, greatest, 1, 1},
	{-1, 2, -1, 1, 1 << 32, least, greatest, 3},
	{least, greatest, least, -5, 5, 0, 0, -1},
	{greatest, least, 0, 1, -1, 1, -1, least},
}

// TestP1402Spelled goes through all forms, each in states of every kind.
func TestP1402Spelled(t *testing.T) {
	p := whole()
	c := Make(p)
	if c == nil {
		t.Fatalf("there is no core: %d", valid.Check(p))
	}
	for thread, th := range p.Threads {
		for place := range th.Ins {
			for k, row := range rows {
				x := api.Thr{Regs: row, Flags: flagsOf(allFlags[(k*5+place)%16]), PC: place, Latch: rows[k][(k+place)%8]}
				wantSpelled(t, c, p, thread, x)
				wantSpelled(t, c, p, thread, with(x, phase(1)))
			}
			x := api.Thr{Regs: rows[1], PC: place, Latch: 77}
			for _, n := range []int{math.MinInt, -1, 2, math.MaxInt} {
				wantSpelled(t, c, p, thread, with(x, phase(n)))
				wantSpelled(t, c, p, thread, with(x, status(n)))
				wantSpelled(t, c, p, thread, with(x, status(n), phase(1)))
			}
		}
		wantIdle(t, c, "the end", thread, api.Thr{PC: len(th.Ins)})
	}
}

// TestP1403Spelled asks each jump with all flags.
func TestP1403Spelled(t *testing.T) {
	p := whole()
	c := Make(p)
	for thread, th := range p.Threads {
		for place, i := range th.Ins {
			for _, f := range allFlags {
				if i.Op == api.Jmp || i.Op == api.Jcc {
					wantSpelled(t, c, p, thread, with(at(), pc(place), flags(f)))
				}
			}
		}
	}
}

// TestP1405Twins does what has a lock also without it, in two parts: both come to one state, and write one number.
func TestP1405Twins(t *testing.T) {
	registers, numbers, memories := operands()
	for _, locked := range crossed(toXor, memories, slices.Concat(registers, numbers), true) {
		parted := locked
		parted.Lock = false
		p := whole()
		p.Threads = []api.Thread{{Ins: []api.Ins{locked, {Op: api.Hlt}}}, {Ins: []api.Ins{parted, {Op: api.Hlt}}}}
		c := Make(p)
		for _, v := range []int64{0, 5, -1, least, greatest} {
			x := api.Thr{Regs: rows[1], Flags: flagsOf("SO")}
			if c.Next(0, x).Kind == api.DTrap {
				continue
			}
			y := c.Loaded(1, x, v)
			d := c.Next(1, y)
			wantSwap(t, c, "a locked one", 0, x, v, swapped{c.Local(1, y), d.Val, true})
			if c.Next(0, x).Addr != d.Addr {
				t.Errorf("%+v is told cell %d, without a lock %d", locked, c.Next(0, x).Addr, d.Addr)
			}
		}
	}
}
