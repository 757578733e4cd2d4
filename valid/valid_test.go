package valid

import (
	"math"
	"reflect"
	"slices"
	"strconv"
	"testing"

	"paling/api"
	"paling/ins"
	"paling/names"
)

var (
	nop   = api.Ins{Op: api.Nop}
	hlt   = api.Ins{Op: api.Hlt}
	fence = api.Ins{Op: api.Mfence}
	rax   = api.Opd{Kind: api.KReg}
	rcx   = api.Opd{Kind: api.KReg, Reg: 2}
	five  = api.Opd{Kind: api.KNum, N: 5}
)

func at(sym int, n int64) api.Opd { return api.Opd{Kind: api.KAt, Sym: sym, N: n} }

func by(sym, reg int) api.Opd { return api.Opd{Kind: api.KBy, Sym: sym, Reg: reg} }

func op(n int, a, b api.Opd) api.Ins { return api.Ins{Op: n, A: a, B: b} }

func jmp(to string) api.Ins { return api.Ins{Op: api.Jmp, To: to} }

func jcc(cond int, to string) api.Ins { return api.Ins{Op: api.Jcc, Cond: cond, To: to} }

func lock(i api.Ins) api.Ins {
	i.Lock = true
	return i
}

// with is i with these labels, in memory of their own.
func with(i api.Ins, labels ...string) api.Ins {
	i.Labels = slices.Clone(labels)
	return i
}

func thread(list ...api.Ins) api.Thread { return api.Thread{Ins: slices.Clone(list)} }

func sym(name string, size int, init ...int64) api.Sym {
	return api.Sym{Name: name, Size: size, Init: slices.Clone(init)}
}

// syms has a symbol of some cells, one of as many as may be, and one of a single cell.
func syms() []api.Sym { return []api.Sym{sym("x", 2, 7), sym("y", api.MaxSize), sym("z", 1, -1)} }

// body has labels, jumps of both kinds, memory of both kinds, and a fence.
func body() api.Thread {
	return thread(
		with(op(api.Mov, rax, at(0, 1)), "a", "b"),
		op(api.Cmp, at(1, 63), five),
		jcc(api.Ne, "c"),
		fence,
		with(op(api.Xchg, by(2, 1), rcx), "c"),
		with(lock(op(api.Add, by(0, 7), five)), "d"),
		jmp("a"),
	)
}

// sample is a program of several symbols and threads that may be; it is made anew each time.
func sample() api.Prog {
	return api.Prog{Syms: syms(), Threads: []api.Thread{body(), thread(hlt), body()}}
}

// beside is a program of the symbols, a thread ahead and these instructions.
func beside(list ...api.Ins) api.Prog {
	return api.Prog{Syms: syms(), Threads: []api.Thread{thread(hlt), thread(list...)}}
}

func wantCheck(t *testing.T, what string, p api.Prog, want api.Code) {
	t.Helper()
	if got := Check(p); got != want {
		t.Errorf("%s: Check is %d, not %d", what, got, want)
	}
}

func repeat(i api.Ins, n int) []api.Ins { return slices.Repeat([]api.Ins{i}, n) }

func manySyms(n int) []api.Sym {
	var out []api.Sym
	for i := range n {
		out = append(out, sym("s"+strconv.Itoa(i), 1))
	}
	return out
}

func manyThreads(n int) []api.Thread {
	var out []api.Thread
	for range n {
		out = append(out, thread(hlt))
	}
	return out
}

func TestP801Ordinary(t *testing.T) {
	wantCheck(t, "the sample", sample(), api.OK)
	wantCheck(t, "a halt", beside(hlt), api.OK)
	wantCheck(t, "a jump on the spot", beside(with(jmp("a"), "a")), api.OK)
	wantCheck(t, "a jump forward", beside(jmp("e"), nop, with(hlt, "e")), api.OK)
	wantCheck(t, "a jump behind a halt", beside(with(hlt, "e"), jcc(api.Ae, "e"), hlt), api.OK)
	wantCheck(t, "a halt amid", beside(hlt, nop, hlt), api.OK)
	wantCheck(t, "a jump amid", beside(with(jmp("a"), "a"), nop, hlt), api.OK)
	wantCheck(t, "a label of a symbol's name", beside(with(nop, "x"), jmp("x")), api.OK)
	wantCheck(t, "fences alone ahead", beside(fence, fence, hlt), api.OK)
}

func TestP801Examples(t *testing.T) {
	wantCheck(t, "none at all", api.Prog{}, api.OK)
	wantCheck(t, "empty lists", api.Prog{Syms: []api.Sym{}, Threads: []api.Thread{}}, api.OK)
	wantCheck(t, "a Nop", api.Prog{Threads: []api.Thread{thread(nop)}}, api.ErrEnd)
	wantCheck(t, "no instruction", api.Prog{Threads: []api.Thread{{}}}, api.ErrEnd)
	wantCheck(t, "no thread", api.Prog{Syms: syms()}, api.OK)
	wantCheck(t, "no symbol", api.Prog{Threads: []api.Thread{thread(hlt)}}, api.OK)
}

func TestP801Many(t *testing.T) {
	for n := api.MaxSyms - 1; n <= api.MaxSyms+2; n++ {
		want := api.OK
		if n > api.MaxSyms {
			want = api.ErrMany
		}
		wantCheck(t, strconv.Itoa(n)+" symbols", api.Prog{Syms: manySyms(n)}, want)
	}
	for n := api.MaxThreads - 1; n <= api.MaxThreads+2; n++ {
		want := api.OK
		if n > api.MaxThreads {
			want = api.ErrMany
		}
		wantCheck(t, strconv.Itoa(n)+" threads", api.Prog{Threads: manyThreads(n)}, want)
	}
	all := api.Prog{Syms: manySyms(api.MaxSyms), Threads: manyThreads(api.MaxThreads)}
	wantCheck(t, "as many of both as may be", all, api.OK)
	wantCheck(t, "wrong symbols, too many", api.Prog{Syms: make([]api.Sym, api.MaxSyms+1)}, api.ErrMany)
	wantCheck(t, "wrong symbols, too many threads", api.Prog{Syms: make([]api.Sym, 1), Threads: manyThreads(api.MaxThreads + 1)}, api.ErrMany)
	wantCheck(t, "wrong threads, too many", api.Prog{Threads: make([]api.Thread, api.MaxThreads+1)}, api.ErrMany)
}

func TestP801LongThreads(t *testing.T) {
	long := func(nops, fences int) api.Thread {
		return thread(slices.Concat(repeat(nop, nops), repeat(fence, fences), []api.Ins{hlt})...)
	}
	of := func(list ...api.Thread) api.Prog { return api.Prog{Threads: list} }
	full := long(api.MaxIns-1, 0)
	wantCheck(t, "one less than may be", of(long(api.MaxIns-2, 0)), api.OK)
	wantCheck(t, "as many as may be", of(full), api.OK)
	wantCheck(t, "fences beside", of(long(api.MaxIns-1, 3*api.MaxIns)), api.OK)
	wantCheck(t, "one more", of(long(api.MaxIns, 0)), api.ErrMany)
	wantCheck(t, "one more, and fences", of(long(api.MaxIns, 1)), api.ErrMany)
	wantCheck(t, "full threads", of(full, full, full), api.OK)
	wantCheck(t, "one more in a later thread", of(full, long(api.MaxIns, 0)), api.ErrMany)
	wantCheck(t, "too many wrong ones", of(api.Thread{Ins: make([]api.Ins, api.MaxIns+1)}), api.ErrMany)
	wantCheck(t, "as many wrong ones as may be", of(api.Thread{Ins: make([]api.Ins, api.MaxIns)}), api.ErrForm)
}

// TestP801ManyLabels has more labels and jumps than could be held against each other one by one.
func TestP801ManyLabels(t *testing.T) {
	const fences = 200000
	var list []api.Ins
	for i := range fences {
		list = append(list, with(fence, "l"+strconv.Itoa(i)))
	}
	for range api.MaxIns - 1 {
		list = append(list, jcc(api.E, "l"+strconv.Itoa(fences-1)))
	}
	good := append(slices.Clone(list), jmp("l0"))
	wantCheck(t, "all there", api.Prog{Threads: []api.Thread{{Ins: good}}}, api.OK)
	none := append(slices.Clone(list), jmp("l"+strconv.Itoa(fences)))
	wantCheck(t, "the last one is none", api.Prog{Threads: []api.Thread{{Ins: none}}}, api.ErrNone)
	twice := append(slices.Clone(list), with(jmp("l0"), "l1"))
	wantCheck(t, "the last one is there twice", api.Prog{Threads: []api.Thread{{Ins: twice}}}, api.ErrDup)
}

func TestP801Symbols(t *testing.T) {
	check := func(what string, want api.Code, list ...api.Sym) {
		t.Helper()
		wantCheck(t, what, api.Prog{Syms: list}, want)
	}
	check("one cell", api.OK, sym("x", 1))
	check("as many cells as may be", api.OK, sym("x", api.MaxSize))
	for _, size := range []int{0, -1, math.MinInt, api.MaxSize + 1, math.MaxInt} {
		check("size "+strconv.Itoa(size), api.ErrSize, sym("x", size))
	}
	for _, size := range []int{1, 2, 63, api.MaxSize} {
		check("an Init as long", api.OK, sym("x", size, make([]int64, size)...))
		check("an Init one shorter", api.OK, sym("x", size, make([]int64, size-1)...))
		check("an Init one longer", api.ErrSize, sym("x", size, make([]int64, size+1)...))
	}
	check("numbers of all kinds", api.OK, sym("x", 3, math.MinInt64, 0, math.MaxInt64))
	for _, name := range []string{"", "mov", "rax", "sym", "thread", "lock", "jae", "1x", "x y", "x\xff", "abcdefghijklmnopq"} {
		check("the name "+strconv.Quote(name), api.ErrName, sym(name, 1))
		check("a later name "+strconv.Quote(name), api.ErrName, sym("a", 1), sym(name, 1))
	}
	for _, name := range []string{"x", "_", "\u00e9t\u00e9", "abcdefghijklmnop", "Mov"} {
		check("the name "+strconv.Quote(name), api.OK, sym(name, 1))
		check("twice the name "+strconv.Quote(name), api.ErrDup, sym(name, 1), sym(name, 1))
	}
	check("a name again, later", api.ErrDup, sym("x", 1), sym("y", 1), sym("z", 1), sym("y", 2))
	check("names that differ in case", api.OK, sym("x", 1), sym("X", 1))
}

func TestP801FirstOfSymbols(t *testing.T) {
	check := func(what string, want api.Code, list ...api.Sym) {
		t.Helper()
		wantCheck(t, what, api.Prog{Syms: list}, want)
	}
	check("a name, and a size", api.ErrName, sym("", 0))
	check("a name twice, and a size", api.ErrDup, sym("x", 1), sym("x", 0))
	check("a name twice, and an Init", api.ErrDup, sym("x", 1), sym("x", 1, 1, 2))
	check("a size, then a name twice", api.ErrSize, sym("x", 0), sym("x", 1))
	check("a size, then a name", api.ErrSize, sym("x", 65), sym("mov", 1))
	check("a name, then the same name", api.ErrName, sym("mov", 1), sym("mov", 1))
	check("a name twice, then a name", api.ErrDup, sym("x", 1), sym("x", 1), sym("mov", 1))
	check("a name, then a name twice", api.ErrName, sym("x", 1), sym("mov", 1), sym("x", 1))
	both := api.Prog{Syms: []api.Sym{sym("x", 0)}, Threads: []api.Thread{thread(with(hlt, "mov"))}}
	wantCheck(t, "a symbol, then a thread", both, api.ErrSize)
}

func TestP801Memory(t *testing.T) {
	forms := map[string]func(o api.Opd) api.Ins{
		"mov A":     func(o api.Opd) api.Ins { return op(api.Mov, o, five) },
		"mov B":     func(o api.Opd) api.Ins { return op(api.Mov, rax, o) },
		"cmp A":     func(o api.Opd) api.Ins { return op(api.Cmp, o, rcx) },
		"cmp B":     func(o api.Opd) api.Ins { return op(api.Cmp, rcx, o) },
		"sub A":     func(o api.Opd) api.Ins { return op(api.Sub, o, five) },
		"xor B":     func(o api.Opd) api.Ins { return op(api.Xor, rax, o) },
		"lock or A": func(o api.Opd) api.Ins { return lock(op(api.Or, o, rax)) },
		"xchg A":    func(o api.Opd) api.Ins { return op(api.Xchg, o, rax) },
		"cmpxchg A": func(o api.Opd) api.Ins { return lock(op(api.Cmpxchg, o, rax)) },
	}
	wants := []struct {
		o    api.Opd
		want api.Code
	}{
		{at(0, 0), api.OK}, {at(0, 1), api.OK}, {at(0, 2), api.ErrPlace}, {at(0, math.MaxInt64), api.ErrPlace},
		{at(1, 63), api.OK}, {at(1, 64), api.ErrPlace},
		{at(2, 0), api.OK}, {at(2, 1), api.ErrPlace}, {at(2, 1<<32), api.ErrPlace},
		{at(3, 0), api.ErrNone}, {at(3, 64), api.ErrNone}, {at(math.MaxInt, math.MaxInt64), api.ErrNone},
		{by(0, 0), api.OK}, {by(2, 7), api.OK}, {by(3, 0), api.ErrNone}, {by(math.MaxInt, 7), api.ErrNone},
		{at(-1, 0), api.ErrForm}, {at(0, -1), api.ErrForm}, {by(-1, 0), api.ErrForm}, {by(0, 8), api.ErrForm},
		{api.Opd{Kind: api.KBy, N: 1}, api.ErrForm}, {api.Opd{Kind: api.KAt, Reg: 1}, api.ErrForm},
	}
	for name, form := range forms {
		for _, w := range wants {
			what := name + " of symbol " + strconv.Itoa(w.o.Sym) + ", " + strconv.FormatInt(w.o.N, 10)
			wantCheck(t, what, beside(form(w.o), hlt), w.want)
		}
	}
	lone := api.Prog{Threads: []api.Thread{thread(op(api.Mov, rax, at(0, 0)), hlt)}}
	wantCheck(t, "no symbol at all", lone, api.ErrNone)
	big := op(api.Mov, rax, api.Opd{Kind: api.KNum, N: math.MaxInt64})
	wantCheck(t, "a number is no place", beside(big, hlt), api.OK)
}

func TestP801Labels(t *testing.T) {
	check := func(what string, want api.Code, list ...api.Ins) {
		t.Helper()
		wantCheck(t, what, beside(list...), want)
	}
	check("on the last one", api.OK, nop, with(hlt, "a"))
	check("several on one", api.OK, with(hlt, "a", "b", "c"))
	check("a fence's", api.OK, with(fence, "a"), jmp("a"))
	check("twice on one", api.ErrDup, with(hlt, "a", "a"))
	check("twice on one, and one between", api.ErrDup, with(hlt, "a", "b", "a"))
	check("twice in a thread", api.ErrDup, with(nop, "a"), with(hlt, "a"))
	check("twice in a thread, far off", api.ErrDup, with(nop, "b", "a"), nop, fence, with(hlt, "c", "a"))
	for _, name := range []string{"", "mov", "r9", "lock", "1", "a b", "\xffx", "abcdefghijklmnopq"} {
		check("the label "+strconv.Quote(name), api.ErrName, with(hlt, name))
		check("a later label "+strconv.Quote(name), api.ErrName, nop, with(hlt, "a", name))
	}
	check("a longest one", api.OK, with(hlt, "\u00e9bcdefghijklmnop"))
	two := api.Prog{Threads: []api.Thread{thread(with(jmp("a"), "a")), thread(with(jmp("a"), "a"))}}
	wantCheck(t, "one in two threads", two, api.OK)
	check("wrong, then twice", api.ErrName, with(hlt, "a", "1", "a"))
	check("twice, then wrong", api.ErrDup, with(hlt, "a", "a", "1"))
	check("twice, then wrong later", api.ErrDup, with(nop, "a", "a"), with(hlt, "1"))
	check("wrong, then twice later", api.ErrName, with(nop, "a", "1"), with(hlt, "a"))
	check("a label ahead of its form", api.ErrName, with(api.Ins{}, "1"))
	check("a form ahead of a later label", api.ErrForm, api.Ins{}, with(hlt, "1"))
	check("a label twice ahead of its form", api.ErrDup, with(nop, "a"), with(api.Ins{}, "a"))
}

func TestP801Jumps(t *testing.T) {
	check := func(what string, want api.Code, list ...api.Ins) {
		t.Helper()
		wantCheck(t, what, beside(list...), want)
	}
	check("a Jmp to none", api.ErrNone, jmp("q"))
	check("a Jcc to none", api.ErrNone, jcc(api.E, "q"), hlt)
	check("a second one to none", api.ErrNone, with(jcc(api.E, "a"), "a"), jmp("b"))
	check("a symbol is no label", api.ErrNone, jmp("x"))
	check("of another case", api.ErrNone, with(jmp("A"), "a"))
	check("no name", api.ErrName, jmp(""))
	check("a word", api.ErrName, jcc(api.L, "mov"), hlt)
	check("a Jcc at the end", api.ErrEnd, with(jcc(api.E, "a"), "a"))
	check("a fence at the end", api.ErrEnd, hlt, fence)
	check("a Mov at the end", api.ErrEnd, hlt, op(api.Mov, rax, five))
	check("the end ahead of the jumps", api.ErrEnd, jmp("q"), nop)
	check("an operand ahead of the end and the jumps", api.ErrPlace, jmp("q"), op(api.Mov, rax, at(0, 9)), nop)
	here, there := thread(with(hlt, "a")), thread(jmp("a"))
	wantCheck(t, "a label of the thread ahead", api.Prog{Threads: []api.Thread{here, there}}, api.ErrNone)
	wantCheck(t, "a label of the thread behind", api.Prog{Threads: []api.Thread{there, here}}, api.ErrNone)
	first := api.Prog{Threads: []api.Thread{there, thread(with(api.Ins{}, "1"))}}
	wantCheck(t, "a thread's jumps ahead of the next thread", first, api.ErrNone)
	long := api.Prog{Threads: []api.Thread{there, {Ins: repeat(hlt, api.MaxIns+1)}}}
	wantCheck(t, "a thread's jumps ahead of the next one's length", long, api.ErrNone)
	last := api.Prog{Threads: []api.Thread{thread(nop), thread(api.Ins{}, hlt)}}
	wantCheck(t, "a thread's end ahead of the next thread", last, api.ErrEnd)
}

// fault is one way to make the sample wrong; two of one spot can't be laid in together.
type fault struct {
	spot string
	code api.Code
	lay  func(p *api.Prog)
}

// faults are in the order in which the document asks for them.
func faults() []fault {
	out := []fault{
		{"symbols", api.ErrMany, func(p *api.Prog) { p.Syms = append(p.Syms, manySyms(api.MaxSyms-2)...) }},
		{"threads", api.ErrMany, func(p *api.Prog) { p.Threads = append(p.Threads, manyThreads(api.MaxThreads-2)...) }},
	}
	for i := range 3 {
		out = append(out, symFaults(i)...)
	}
	for i := range 3 {
		out = append(out, threadFaults(i)...)
	}
	return out
}

func symFaults(n int) []fault {
	at := "symbol " + strconv.Itoa(n)
	out := []fault{{at + " name", api.ErrName, func(p *api.Prog) { p.Syms[n].Name = "jmp" }}}
	if n > 0 {
		out = append(out, fault{at + " name", api.ErrDup, func(p *api.Prog) { p.Syms[n].Name = p.Syms[n-1].Name }})
	}
	return append(out,
		fault{at + " size", api.ErrSize, func(p *api.Prog) { p.Syms[n].Size = 0 }},
		fault{at + " size", api.ErrSize, func(p *api.Prog) { p.Syms[n].Size = api.MaxSize + 1 }},
		fault{at + " init", api.ErrSize, func(p *api.Prog) { p.Syms[n].Init = make([]int64, api.MaxSize+1) }},
	)
}

func threadFaults(n int) []fault {
	at := "thread " + strconv.Itoa(n)
	// What is added stands at the end, so that the others keep their numbers.
	out := []fault{{at + " length", api.ErrMany, func(p *api.Prog) {
		p.Threads[n].Ins = append(p.Threads[n].Ins, repeat(hlt, api.MaxIns)...)
	}}}
	list := sample().Threads[n].Ins
	for i := range list {
		out = append(out, insFaults(n, i, list[i])...)
	}
	out = append(out, fault{at + " end", api.ErrEnd, func(p *api.Prog) { p.Threads[n].Ins = append(p.Threads[n].Ins, nop) }})
	for i := range list {
		if list[i].To != "" {
			to := at + " " + strconv.Itoa(i) + " to"
			out = append(out, fault{to, api.ErrNone, func(p *api.Prog) { p.Threads[n].Ins[i].To = "nowhere" }})
		}
	}
	return out
}

func insFaults(n, i int, here api.Ins) []fault {
	at := "thread " + strconv.Itoa(n) + " " + strconv.Itoa(i)
	of := func(p *api.Prog) *api.Ins { return &p.Threads[n].Ins[i] }
	out := []fault{
		{at + " labels", api.ErrName, func(p *api.Prog) { of(p).Labels = append(of(p).Labels, "1x") }},
		{at + " labels", api.ErrDup, func(p *api.Prog) { of(p).Labels = append(of(p).Labels, "twice", "twice") }},
		{at + " cond", api.ErrForm, func(p *api.Prog) { of(p).Cond = 11 }},
	}
	if here.To != "" {
		out = append(out, fault{at + " to", api.ErrName, func(p *api.Prog) { of(p).To = "" }})
	}
	sides := []func(p *api.Prog) *api.Opd{
		func(p *api.Prog) *api.Opd { return &of(p).A },
		func(p *api.Prog) *api.Opd { return &of(p).B },
	}
	for side, opd := range []api.Opd{here.A, here.B} {
		if opd.Kind == api.KAt || opd.Kind == api.KBy {
			out = append(out, fault{at + " sym", api.ErrNone, func(p *api.Prog) { sides[side](p).Sym = 1000 }})
		}
		if opd.Kind == api.KAt {
			out = append(out, fault{at + " n", api.ErrPlace, func(p *api.Prog) { sides[side](p).N = api.MaxSize }})
		}
	}
	return out
}

func TestP801EachFaultAlone(t *testing.T) {
	for _, f := range faults() {
		p := sample()
		f.lay(&p)
		wantCheck(t, f.spot, p, f.code)
		if got := spelledCheck(p); got != f.code {
			t.Errorf("%s: spelled it is %d, not %d", f.spot, got, f.code)
		}
	}
}

func TestP801TheFirstOfTwo(t *testing.T) {
	all := faults()
	for i, f := range all {
		for _, g := range all[i+1:] {
			if f.spot == g.spot {
				continue
			}
			p, q := sample(), sample()
			f.lay(&p)
			g.lay(&p)
			g.lay(&q)
			f.lay(&q)
			wantCheck(t, f.spot+", then "+g.spot, p, f.code)
			wantCheck(t, g.spot+", then "+f.spot, q, f.code)
			if t.Failed() {
				return
			}
		}
	}
}

// ranked is a fault that a program has; of all, that of the least place counts.
type ranked struct {
	place []int
	code  api.Code
}

// spelledCheck is P801, sentence by sentence: it gathers all faults and takes the first.
func spelledCheck(p api.Prog) api.Code {
	var all []ranked
	note := func(is bool, code api.Code, place ...int) {
		if is {
			all = append(all, ranked{place, code})
		}
	}
	note(len(p.Syms) > 64 || len(p.Threads) > 64, api.ErrMany, 0)
	for i, s := range p.Syms {
		note(!names.Right(s.Name), api.ErrName, 1, i, 0)
		for _, a := range p.Syms[:i] {
			note(a.Name == s.Name, api.ErrDup, 1, i, 1)
		}
		note(s.Size < 1 || s.Size > 64 || len(s.Init) > s.Size, api.ErrSize, 1, i, 2)
	}
	for n, t := range p.Threads {
		spelledThread(t, p.Syms, func(is bool, code api.Code, place ...int) {
			note(is, code, append([]int{2, n}, place...)...)
		})
	}
	if len(all) == 0 {
		return api.OK
	}
	return slices.MinFunc(all, func(a, b ranked) int { return slices.Compare(a.place, b.place) }).code
}

func spelledThread(t api.Thread, syms []api.Sym, note func(is bool, code api.Code, place ...int)) {
	note(spelledCount(t) > 4096, api.ErrMany, 0)
	stood := map[string]int{}
	for i, one := range t.Ins {
		for j, l := range one.Labels {
			note(!names.Right(l), api.ErrName, 1, i, 0, j, 0)
			note(stood[l] > 0, api.ErrDup, 1, i, 0, j, 1)
			stood[l]++
		}
		note(ins.Right(one) != api.OK, ins.Right(one), 1, i, 1)
		for side, o := range []api.Opd{one.A, one.B} {
			memory := o.Kind == api.KAt || o.Kind == api.KBy
			there := o.Sym >= 0 && o.Sym < len(syms)
			note(memory && !there, api.ErrNone, 1, i, 2, side, 0)
			note(o.Kind == api.KAt && there && o.N >= int64(syms[max(0, min(o.Sym, len(syms)-1))].Size), api.ErrPlace, 1, i, 2, side, 1)
		}
		note((one.Op == api.Jmp || one.Op == api.Jcc) && stoodIn(t, one.To) == -1, api.ErrNone, 3, i)
	}
	note(len(t.Ins) == 0, api.ErrEnd, 2)
	if len(t.Ins) > 0 {
		last := t.Ins[len(t.Ins)-1].Op
		note(last != api.Jmp && last != api.Hlt, api.ErrEnd, 2)
	}
}

func spelledCount(t api.Thread) int {
	n := len(t.Ins)
	for _, i := range t.Ins {
		if i.Op == api.Mfence {
			n--
		}
	}
	return n
}

// stoodIn is Find, from the end on.
func stoodIn(t api.Thread, label string) int {
	found := -1
	for i := len(t.Ins) - 1; i >= 0; i-- {
		for _, l := range t.Ins[i].Labels {
			if l == label {
				found = i
			}
		}
	}
	return found
}

// dice are numbers that seem to follow no rule, the same in each run.
type dice uint64

func (d *dice) roll(n int) int {
	*d = *d*6364136223846793005 + 1442695040888963407
	return int(uint64(*d)>>33) % n
}

// jumble changes one field of p, well or badly.
func jumble(p *api.Prog, d *dice) {
	texts := []string{"x", "y", "z", "a", "b", "c", "d", "e", "", "mov", "1x"}
	text := func() string { return texts[d.roll(len(texts))] }
	s := &p.Syms[d.roll(len(p.Syms))]
	t := &p.Threads[d.roll(len(p.Threads))]
	switch d.roll(5) {
	case 0:
		s.Name = text()
		return
	case 1:
		s.Size = d.roll(67) - 1
		s.Init = make([]int64, d.roll(4))
		return
	case 2:
		cut := d.roll(len(t.Ins) + 1)
		t.Ins = t.Ins[:cut]
		return
	}
	if len(t.Ins) == 0 {
		t.Ins = thread(hlt).Ins
		return
	}
	i := &t.Ins[d.roll(len(t.Ins))]
	opds := []api.Opd{rax, five, at(d.roll(4), int64(d.roll(66)-1)), by(d.roll(5)-1, d.roll(9)), {}}
	switch d.roll(6) {
	case 0:
		i.Labels = append(slices.Clone(i.Labels), text())
	case 1:
		i.Labels = nil
	case 2:
		i.To = text()
	case 3:
		i.A = opds[d.roll(len(opds))]
	case 4:
		i.B = opds[d.roll(len(opds))]
	case 5:
		i.Op = d.roll(16)
	}
}

func TestP801AllKinds(t *testing.T) {
	d := dice(8)
	seen := map[api.Code]int{}
	for range 60000 {
		p := sample()
		for range d.roll(4) {
			jumble(&p, &d)
		}
		want := spelledCheck(p)
		seen[want]++
		if got := Check(p); got != want {
			t.Fatalf("Check of %+v is %d, not %d", p, got, want)
		}
	}
	for _, code := range []api.Code{api.OK, api.ErrName, api.ErrForm, api.ErrSize, api.ErrDup, api.ErrNone, api.ErrPlace, api.ErrEnd} {
		if seen[code] < 100 {
			t.Errorf("code %d came up %d times alone", code, seen[code])
		}
	}
}

func TestP801ChangesNothing(t *testing.T) {
	p := sample()
	Check(p)
	if !reflect.DeepEqual(p, sample()) {
		t.Error("Check has changed what it was handed")
	}
}

func TestP802Find(t *testing.T) {
	list := thread(with(fence, "a"), nop, with(api.Ins{Op: 99}, "b", "c"), with(hlt, "c", "d", "d"), with(nop, "1x", "mov"), with(hlt, "end"))
	wants := map[string]int{"a": 0, "b": 2, "c": 2, "d": 3, "1x": 4, "mov": 4, "end": 5, "e": -1, "": -1, "A": -1, "en": -1, "ends": -1, "x": -1}
	for label, want := range wants {
		if got := Find(list, label); got != want {
			t.Errorf("Find of %q is %d, not %d", label, got, want)
		}
	}
	empty := thread(nop, with(hlt, "a", ""), with(hlt, ""))
	if got := Find(empty, ""); got != 1 {
		t.Errorf("Find of an empty label is %d, not 1", got)
	}
	for _, label := range []string{"", "a"} {
		if got := Find(api.Thread{}, label); got != -1 {
			t.Errorf("Find of %q where nothing is: %d, not -1", label, got)
		}
		if got := Find(thread(nop, jmp("a"), hlt), label); got != -1 {
			t.Errorf("Find of %q where no label is: %d, not -1", label, got)
		}
	}
}

func TestP802Count(t *testing.T) {
	wants := []struct {
		list api.Thread
		want int
	}{
		{api.Thread{}, 0}, {thread(), 0}, {thread(nop), 1}, {thread(fence), 0}, {thread(fence, fence), 0},
		{thread(fence, nop, fence, hlt, fence), 2}, {body(), 6},
		{thread(api.Ins{}, api.Ins{Op: -1}, api.Ins{Op: 99}), 3},
		{thread(with(fence, "a"), api.Ins{Op: api.Mfence, Lock: true, Cond: 3, A: rax}), 0},
		{thread(lock(op(api.Xchg, at(0, 0), rax)), op(api.Xchg, at(0, 0), rax)), 2},
		{thread(repeat(nop, 5000)...), 5000},
	}
	for i, w := range wants {
		if got := Count(w.list); got != w.want {
			t.Errorf("Count %d is %d, not %d", i, got, w.want)
		}
	}
	for n := -1; n <= 16; n++ {
		want := 1
		if n == api.Mfence {
			want = 0
		}
		if got := Count(thread(api.Ins{Op: n})); got != want {
			t.Errorf("Count of Op %d is %d, not %d", n, got, want)
		}
	}
}

// changes each turn the sample into a program unlike it, and unlike what the others turn it into.
func changes() map[string]func(p *api.Prog) {
	return map[string]func(p *api.Prog){
		"a symbol's name":           func(p *api.Prog) { p.Syms[1].Name = "w" },
		"a symbol's size":           func(p *api.Prog) { p.Syms[1].Size = 63 },
		"a number":                  func(p *api.Prog) { p.Syms[2].Init[0] = 1 },
		"a number more":             func(p *api.Prog) { p.Syms[0].Init = []int64{7, 0} },
		"a number more, ahead":      func(p *api.Prog) { p.Syms[0].Init = []int64{0, 7} },
		"a number less":             func(p *api.Prog) { p.Syms[0].Init = nil },
		"a zero where none was":     func(p *api.Prog) { p.Syms[1].Init = []int64{0} },
		"a symbol more":             func(p *api.Prog) { p.Syms = append(p.Syms, api.Sym{}) },
		"a symbol less":             func(p *api.Prog) { p.Syms = p.Syms[:2] },
		"no symbol":                 func(p *api.Prog) { p.Syms = nil },
		"symbols in another order":  func(p *api.Prog) { p.Syms[0], p.Syms[1] = p.Syms[1], p.Syms[0] },
		"a thread more":             func(p *api.Prog) { p.Threads = append(p.Threads, api.Thread{}) },
		"a thread less":             func(p *api.Prog) { p.Threads = p.Threads[:2] },
		"no thread":                 func(p *api.Prog) { p.Threads = nil },
		"threads in another order":  func(p *api.Prog) { p.Threads[0], p.Threads[1] = p.Threads[1], p.Threads[0] },
		"an instruction more":       func(p *api.Prog) { p.Threads[2].Ins = append(p.Threads[2].Ins, api.Ins{}) },
		"an instruction less":       func(p *api.Prog) { p.Threads[2].Ins = p.Threads[2].Ins[:6] },
		"no instruction":            func(p *api.Prog) { p.Threads[1].Ins = nil },
		"two in another order":      func(p *api.Prog) { l := p.Threads[0].Ins; l[2], l[3] = l[3], l[2] },
		"an Op":                     func(p *api.Prog) { p.Threads[1].Ins[0].Op = api.Nop },
		"a Lock":                    func(p *api.Prog) { p.Threads[2].Ins[5].Lock = false },
		"a Cond":                    func(p *api.Prog) { p.Threads[2].Ins[2].Cond = api.E },
		"A's Kind":                  func(p *api.Prog) { p.Threads[2].Ins[4].A.Kind = api.KAt },
		"A's Reg":                   func(p *api.Prog) { p.Threads[2].Ins[4].A.Reg = 2 },
		"A's Sym":                   func(p *api.Prog) { p.Threads[2].Ins[4].A.Sym = 1 },
		"A's N":                     func(p *api.Prog) { p.Threads[2].Ins[1].A.N = 62 },
		"B's Kind":                  func(p *api.Prog) { p.Threads[0].Ins[0].B.Kind = api.KBy },
		"B's Reg":                   func(p *api.Prog) { p.Threads[0].Ins[4].B.Reg = 0 },
		"B's Sym":                   func(p *api.Prog) { p.Threads[0].Ins[0].B.Sym = 1 },
		"B's N":                     func(p *api.Prog) { p.Threads[0].Ins[1].B.N = -5 },
		"where it jumps to":         func(p *api.Prog) { p.Threads[2].Ins[6].To = "b" },
		"a label":                   func(p *api.Prog) { p.Threads[2].Ins[5].Labels[0] = "e" },
		"a label more":              func(p *api.Prog) { p.Threads[2].Ins[5].Labels = []string{"d", ""} },
		"a label less":              func(p *api.Prog) { p.Threads[2].Ins[5].Labels = nil },
		"labels in another order":   func(p *api.Prog) { l := p.Threads[2].Ins[0].Labels; l[0], l[1] = l[1], l[0] },
		"a label on another one":    func(p *api.Prog) { l := p.Threads[2].Ins; l[4].Labels, l[3].Labels = nil, l[4].Labels },
		"an empty label":            func(p *api.Prog) { p.Threads[1].Ins[0].Labels = []string{""} },
		"nothing of what was there": func(p *api.Prog) { *p = api.Prog{} },
	}
}

func TestP802Same(t *testing.T) {
	all := map[string]api.Prog{"the sample": sample()}
	for what, change := range changes() {
		p := sample()
		change(&p)
		all[what] = p
	}
	for what, p := range all {
		for other, q := range all {
			if got := Same(p, q); got != (what == other) {
				t.Errorf("%s and %s: Same is %t", what, other, got)
			}
		}
	}
	if !Same(sample(), sample()) {
		t.Error("two samples are not the same")
	}
}

func TestP802SameOfEmptyLists(t *testing.T) {
	bare := api.Prog{Syms: []api.Sym{{Name: "x"}}, Threads: []api.Thread{{}, {Ins: []api.Ins{{}}}}}
	full := api.Prog{
		Syms:    []api.Sym{{Name: "x", Init: []int64{}}},
		Threads: []api.Thread{{Ins: []api.Ins{}}, {Ins: []api.Ins{{Labels: []string{}}}}},
	}
	empty := api.Prog{Syms: []api.Sym{}, Threads: []api.Thread{}}
	if !Same(bare, full) || !Same(full, bare) || !Same(api.Prog{}, empty) || !Same(empty, api.Prog{}) {
		t.Error("nil and an empty list are not one")
	}
	if Same(bare, empty) || Same(empty, full) || Same(api.Prog{}, api.Prog{Threads: []api.Thread{{}}}) {
		t.Error("a list of one empty thing is as none")
	}
}

// scribble writes over all that p has, to the ends of what its lists could have.
func scribble(p api.Prog) {
	for _, t := range p.Threads[:cap(p.Threads)] {
		for _, i := range t.Ins[:cap(t.Ins)] {
			for l := range i.Labels[:cap(i.Labels)] {
				i.Labels[:cap(i.Labels)][l] = "over"
			}
		}
		for i := range t.Ins[:cap(t.Ins)] {
			t.Ins[:cap(t.Ins)][i] = api.Ins{Op: 77, To: "over"}
		}
	}
	for _, s := range p.Syms[:cap(p.Syms)] {
		for n := range s.Init[:cap(s.Init)] {
			s.Init[:cap(s.Init)][n] = 77
		}
	}
	for i := range p.Syms[:cap(p.Syms)] {
		p.Syms[:cap(p.Syms)][i] = api.Sym{Name: "over"}
	}
	for i := range p.Threads[:cap(p.Threads)] {
		p.Threads[:cap(p.Threads)][i] = api.Thread{}
	}
}

func TestP802Copy(t *testing.T) {
	all := changes()
	all["the sample"] = func(p *api.Prog) {}
	for what, change := range all {
		p, want := sample(), sample()
		change(&p)
		change(&want)
		q, r := Copy(p), Copy(p)
		if !Same(p, q) || !reflect.DeepEqual(flat(q), flat(want)) {
			t.Errorf("%s: the copy is not the same", what)
		}
		scribble(q)
		if !reflect.DeepEqual(p, want) || !reflect.DeepEqual(flat(r), flat(want)) {
			t.Errorf("%s: the copy was written over, and what it was made of has changed", what)
		}
		scribble(p)
		if !reflect.DeepEqual(flat(r), flat(want)) {
			t.Errorf("%s: it was written over, and its copy has changed", what)
		}
	}
	if !Same(Copy(api.Prog{}), api.Prog{}) {
		t.Error("the copy of none at all is not the same")
	}
}

// flat is p with nil for each list that has nothing.
func flat(p api.Prog) api.Prog {
	var out api.Prog
	for _, s := range p.Syms {
		s.Init = append([]int64(nil), s.Init...)
		out.Syms = append(out.Syms, s)
	}
	for _, t := range p.Threads {
		var list []api.Ins
		for _, i := range t.Ins {
			i.Labels = append([]string(nil), i.Labels...)
			list = append(list, i)
		}
		out.Threads = append(out.Threads, api.Thread{Ins: list})
	}
	return out
}

// TestP802CopyParts hands in lists that lie in one another: those of the copy don't.
func TestP802CopyParts(t *testing.T) {
	numbers := []int64{1, 2, 3}
	labels := []string{"a", "b", "c"}
	list := []api.Ins{{Op: api.Nop, Labels: labels[:1]}, {Op: api.Nop, Labels: labels[:2]}, {Op: api.Hlt, Labels: labels[:0]}}
	p := api.Prog{
		Syms:    []api.Sym{{Name: "x", Size: 3, Init: numbers}, {Name: "y", Size: 3, Init: numbers[:1]}, {Name: "z", Size: 3, Init: numbers[:0]}},
		Threads: []api.Thread{{Ins: list}, {Ins: list[:2]}, {Ins: list}, {Ins: list[:0]}},
	}
	q := Copy(p)
	q.Syms[0].Init[0] = 9
	_ = append(q.Syms[1].Init, 9)
	_ = append(q.Syms[2].Init, 9)
	q.Threads[0].Ins[0].Labels[0] = "z"
	_ = append(q.Threads[0].Ins[0].Labels, "z")
	_ = append(q.Threads[0].Ins[2].Labels, "z")
	q.Threads[0].Ins[1].Op = 9
	_ = append(q.Threads[1].Ins, api.Ins{Op: 9})
	_ = append(q.Threads[3].Ins, api.Ins{Op: 9})
	want := flat(p)
	want.Syms[0].Init[0] = 9
	want.Threads[0].Ins[0].Labels[0] = "z"
	want.Threads[0].Ins[1].Op = 9
	if !reflect.DeepEqual(flat(q), want) {
		t.Error("what was written into one list of the copy is seen in another one")
	}
	if numbers[0] != 1 || labels[0] != "a" || list[1].Op != api.Nop || list[2].Op != api.Hlt {
		t.Error("what was written into the copy is seen in what was handed in")
	}
}
