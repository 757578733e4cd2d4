package show

import (
	"fmt"
	"math"
	"reflect"
	"slices"
	"strconv"
	"strings"
	"testing"

	"paling/api"
	"paling/ins"
	"paling/valid"
)

var (
	rax = api.Opd{Kind: api.KReg}
	rbx = api.Opd{Kind: api.KReg, Reg: 1}
	r9  = api.Opd{Kind: api.KReg, Reg: 7}
	nop = api.Ins{Op: api.Nop}
	hlt = api.Ins{Op: api.Hlt}
)

func imm(n int64) api.Opd { return api.Opd{Kind: api.KNum, N: n} }

func at(sym int, n int64) api.Opd { return api.Opd{Kind: api.KAt, Sym: sym, N: n} }

func by(sym, reg int) api.Opd { return api.Opd{Kind: api.KBy, Sym: sym, Reg: reg} }

func op(n int, a, b api.Opd) api.Ins { return api.Ins{Op: n, A: a, B: b} }

func jmp(to string) api.Ins { return api.Ins{Op: api.Jmp, To: to} }

func jcc(cond int, to string) api.Ins { return api.Ins{Op: api.Jcc, Cond: cond, To: to} }

func lock(i api.Ins) api.Ins {
	i.Lock = true
	return i
}

// with is i with these labels, in memory of their own.
func with(i api.Ins, labels ...string) api.Ins {
	i.Labels = slices.Clone(labels)
	return i
}

func thread(list ...api.Ins) api.Thread { return api.Thread{Ins: slices.Clone(list)} }

func wantIns(t *testing.T, want string, i api.Ins, syms ...string) {
	t.Helper()
	if got := Ins(i, syms...); got != want {
		t.Errorf("Ins of %+v with %q is %q, not %q", i, syms, got, want)
	}
}

func wantProg(t *testing.T, what string, p api.Prog, want ...string) {
	t.Helper()
	text := ""
	for _, line := range want {
		text += line + "\n"
	}
	if got := Prog(p); got != text {
		t.Errorf("%s: Prog is\n%q, not\n%q", what, got, text)
	}
}

func TestP901Operands(t *testing.T) {
	words := map[int]string{api.Mov: "mov", api.Add: "add", api.Sub: "sub", api.And: "and", api.Or: "or", api.Xor: "xor", api.Cmp: "cmp"}
	for n, word := range words {
		wantIns(t, word+" rax, r9", op(n, rax, r9))
		wantIns(t, word+" r9, r9", op(n, r9, r9))
		wantIns(t, word+" rbx, -5", op(n, rbx, imm(-5)))
		wantIns(t, word+" rax, y[3]", op(n, rax, at(1, 3)), "x", "y")
		wantIns(t, word+" rbx, x[rax]", op(n, rbx, by(0, 0)), "x", "y")
		wantIns(t, word+" x[0], 12", op(n, at(0, 0), imm(12)), "x", "y")
		wantIns(t, word+" x[63], rbx", op(n, at(0, 63), rbx), "x", "y")
		wantIns(t, word+" y[r8], 0", op(n, by(1, 6), imm(0)), "x", "y")
		wantIns(t, word+" y[rdi], rax", op(n, by(1, 5), rax), "x", "y")
		locked := lock(op(n, by(1, 5), rax))
		if n == api.Mov || n == api.Cmp {
			wantIns(t, "", locked, "x", "y")
		} else {
			wantIns(t, "lock "+word+" y[rdi], rax", locked, "x", "y")
			wantIns(t, "lock "+word+" x[1], -1", lock(op(n, at(0, 1), imm(-1))), "x", "y")
		}
	}
	wantIns(t, "xchg x[2], rbx", op(api.Xchg, at(0, 2), rbx), "x")
	wantIns(t, "xchg x[rcx], r9", op(api.Xchg, by(0, 2), r9), "x")
	wantIns(t, "lock cmpxchg x[2], rbx", lock(op(api.Cmpxchg, at(0, 2), rbx)), "x")
	wantIns(t, "lock cmpxchg x[rsi], rax", lock(op(api.Cmpxchg, by(0, 4), rax)), "x")
}

func TestP901WithoutOperands(t *testing.T) {
	conds := map[int]string{api.E: "je", api.Ne: "jne", api.L: "jl", api.Le: "jle", api.G: "jg", api.Ge: "jge", api.B: "jb", api.Be: "jbe", api.A: "ja", api.Ae: "jae"}
	for cond, word := range conds {
		wantIns(t, word+" top", jcc(cond, "top"))
		wantIns(t, word+" \u00e9t\u00e9", jcc(cond, "\u00e9t\u00e9"), "x")
	}
	wantIns(t, "jmp top", jmp("top"))
	wantIns(t, "jmp abcdefghijklmnop", jmp("abcdefghijklmnop"), "x", "y")
	wantIns(t, "mfence", api.Ins{Op: api.Mfence})
	wantIns(t, "nop", nop)
	wantIns(t, "hlt", hlt, "x")
}

func TestP901LabelsAreAside(t *testing.T) {
	wantIns(t, "hlt", with(hlt, "a", "b"))
	wantIns(t, "jne a", with(jcc(api.Ne, "a"), "a"))
	wantIns(t, "mov rax, rbx", with(op(api.Mov, rax, rbx), "", "mov", "1x"))
}

func TestP901Numbers(t *testing.T) {
	wantIns(t, "mov rax, -9223372036854775808", op(api.Mov, rax, imm(math.MinInt64)))
	wantIns(t, "mov rax, 9223372036854775807", op(api.Mov, rax, imm(math.MaxInt64)))
	wantIns(t, "mov x[0], -1", op(api.Mov, at(0, 0), imm(-1)), "x")
	wantIns(t, "mov x[9223372036854775807], -9223372036854775808", op(api.Mov, at(0, math.MaxInt64), imm(math.MinInt64)), "x")
}

func TestP901Symbols(t *testing.T) {
	for _, i := range []api.Ins{op(api.Mov, at(2, 1), rax), op(api.Mov, rax, at(2, 1)), op(api.Cmp, by(2, 1), rax), op(api.Cmp, rax, by(2, 1)), op(api.Xchg, by(2, 1), rax), lock(op(api.Cmpxchg, at(2, 1), rax))} {
		wantIns(t, "", i)
		wantIns(t, "", i, "x")
		wantIns(t, "", i, "x", "y")
		just, more := Ins(i, "x", "y", "z"), Ins(i, "x", "y", "z", "a", "b")
		if !strings.Contains(just, " z[") || more != just {
			t.Errorf("%+v: %q with its symbols, %q with more", i, just, more)
		}
	}
	wantIns(t, "mov été[1], rax", op(api.Mov, at(1, 1), rax), "x", "été")
	wantIns(t, "mov mov[1], rax", op(api.Mov, at(1, 1), rax), "x", "mov")
	wantIns(t, "mov [1], rax", op(api.Mov, at(1, 1), rax), "x", "")
	wantIns(t, "mov rbx, [rax]", op(api.Mov, rbx, by(0, 0)), "")
	wantIns(t, "", op(api.Mov, at(math.MaxInt, 1), rax), "x")
	wantIns(t, "", op(api.Mov, rax, by(math.MaxInt, 1)), "x")
	wantIns(t, "mov rax, rbx", op(api.Mov, rax, rbx))
	wantIns(t, "add rax, 2", op(api.Add, rax, imm(2)))
}

func TestP901Wrong(t *testing.T) {
	form := []api.Ins{
		{}, {Op: -1}, {Op: 15}, {Op: math.MaxInt},
		op(api.Mov, imm(1), rax), op(api.Mov, at(0, 0), at(0, 0)), op(api.Mov, rax, api.Opd{}), op(api.Mov, api.Opd{}, rax),
		op(api.Mov, at(-1, 0), rax), op(api.Mov, at(0, -1), rax), op(api.Mov, rax, by(0, 8)), op(api.Mov, api.Opd{Kind: 9}, rax),
		op(api.Xchg, rax, rbx), op(api.Xchg, at(0, 0), imm(1)), lock(op(api.Xchg, at(0, 0), rax)), op(api.Cmpxchg, at(0, 0), rax),
		lock(op(api.Add, rax, at(0, 0))), lock(nop), lock(jmp("a")), op(api.Jmp, rax, rbx), op(api.Nop, rax, api.Opd{}),
		{Op: api.Jmp, Cond: api.E, To: "a"}, jcc(0, "a"), jcc(11, "a"), jcc(-1, "a"),
		{Op: api.Hlt, To: "a"}, {Op: api.Mov, A: rax, B: rbx, To: "a"}, {Op: api.Mov, A: rax, B: rbx, Cond: 1},
	}
	for _, i := range form {
		if code := ins.Right(i); code != api.ErrForm {
			t.Errorf("%+v is %d", i, code)
		}
		wantIns(t, "", i, "x", "y")
	}
	for _, to := range []string{"", "mov", "rax", "thread", "1x", "a b", "a\xff", "abcdefghijklmnopq"} {
		for _, i := range []api.Ins{jmp(to), jcc(api.L, to)} {
			if code := ins.Right(i); code != api.ErrName {
				t.Errorf("%+v is %d", i, code)
			}
			wantIns(t, "", i, "x", "y")
		}
	}
}

// spelledIns is P901, from the words on, of any i that is made of these lists.
func spelledIns(i api.Ins, syms []string) string {
	if ins.Right(i) != api.OK {
		return ""
	}
	var parts []string
	for _, o := range []api.Opd{i.A, i.B} {
		if o.Kind == api.KNone {
			continue
		}
		memory := o.Kind == api.KAt || o.Kind == api.KBy
		if memory && o.Sym >= len(syms) {
			return ""
		}
		reg := strings.Fields("rax rbx rcx rdx rsi rdi r8 r9")[o.Reg]
		switch o.Kind {
		case api.KReg:
			parts = append(parts, reg)
		case api.KNum:
			parts = append(parts, fmt.Sprint(o.N))
		case api.KAt:
			parts = append(parts, fmt.Sprintf("%s[%d]", syms[o.Sym], o.N))
		case api.KBy:
			parts = append(parts, fmt.Sprintf("%s[%s]", syms[o.Sym], reg))
		}
	}
	words := strings.Fields("- mov add sub and or xor cmp xchg cmpxchg jmp - mfence nop hlt")
	word := words[i.Op]
	if i.Op == api.Jcc {
		word = strings.Fields("- je jne jl jle jg jge jb jbe ja jae")[i.Cond]
	}
	if i.Lock {
		word = "lock " + word
	}
	if len(parts) > 0 {
		word += " " + strings.Join(parts, ", ")
	}
	if i.To != "" {
		word += " " + i.To
	}
	return word
}

func TestP901AllKinds(t *testing.T) {
	opds := []api.Opd{{}, rax, r9, imm(-7), imm(1), at(0, 0), at(1, 5), at(3, 1), by(0, 1), by(2, 7), at(-1, 0), by(0, 9), {Kind: 5}}
	syms := []string{"x", "", "z"}
	texts := 0
	for n := -1; n <= 15; n++ {
		for cond := -1; cond <= 11; cond++ {
			for _, to := range []string{"", "top", "jmp"} {
				for _, a := range opds {
					for _, b := range opds {
						for _, has := range []bool{false, true} {
							i := api.Ins{Op: n, Lock: has, Cond: cond, A: a, B: b, To: to}
							for k := range syms {
								want := spelledIns(i, syms[:k+1])
								wantIns(t, want, i, syms[:k+1]...)
								if want != "" {
									texts++
								}
							}
						}
					}
				}
			}
			if t.Failed() {
				return
			}
		}
	}
	if texts < 500 {
		t.Errorf("there were %d texts alone", texts)
	}
}

// sample has symbols with and without Init, and threads with labels, fences and all kinds of jumps; it is made anew each time.
func sample() api.Prog {
	return api.Prog{
		Syms: []api.Sym{{Name: "x", Size: 3, Init: []int64{-1, 0}}, {Name: "été", Size: 64}, {Name: "z_1", Size: 2, Init: []int64{math.MinInt64, math.MaxInt64}}},
		Threads: []api.Thread{
			thread(
				with(op(api.Mov, at(0, 2), imm(1)), "a", "b"),
				api.Ins{Op: api.Mfence},
				with(op(api.Mov, rax, by(1, 2)), "c"),
				jcc(api.Ne, "b"),
				lock(op(api.Sub, at(2, 1), rbx)),
				with(hlt, "end", "x"),
			),
			thread(hlt),
			thread(with(api.Ins{Op: api.Mfence}, "a"), jmp("a")),
		},
	}
}

func sampleLines() []string {
	return []string{
		"sym x 3 -1 0", "sym été 64", "sym z_1 2 -9223372036854775808 9223372036854775807",
		"thread", "a:", "b:", "\tmov x[2], 1", "\tmfence", "c:", "\tmov rax, été[rcx]", "\tjne b", "\tlock sub z_1[1], rbx", "end:", "x:", "\thlt",
		"thread", "\thlt",
		"thread", "a:", "\tmfence", "\tjmp a",
	}
}

func TestP902Ordinary(t *testing.T) {
	wantProg(t, "the sample", sample(), sampleLines()...)
	p := sample()
	p.Threads = nil
	wantProg(t, "no thread", p, sampleLines()[:3]...)
	wantProg(t, "no symbol", api.Prog{Threads: sample().Threads[1:]}, sampleLines()[15:]...)
}

func TestP902Examples(t *testing.T) {
	wantProg(t, "top: jmp top", api.Prog{Threads: []api.Thread{thread(with(jmp("top"), "top"))}}, "thread", "top:", "\tjmp top")
	half := func(mine, other int) api.Thread {
		return thread(op(api.Mov, at(mine, 0), imm(1)), op(api.Mov, rax, at(other, 0)), hlt)
	}
	whole := api.Prog{Syms: []api.Sym{{Name: "x", Size: 1}, {Name: "y", Size: 1}}, Threads: []api.Thread{half(0, 1), half(1, 0)}}
	wantProg(t, "the document's", whole, "sym x 1", "sym y 1", "thread", "\tmov x[0], 1", "\tmov rax, y[0]", "\thlt", "thread", "\tmov y[0], 1", "\tmov rax, x[0]", "\thlt")
}

func TestP902Edges(t *testing.T) {
	wantProg(t, "nothing", api.Prog{})
	wantProg(t, "empty lists", api.Prog{Syms: []api.Sym{}, Threads: []api.Thread{}})
	full := make([]int64, api.MaxSize)
	wantProg(t, "an Init as long as may be", api.Prog{Syms: []api.Sym{{Name: "x", Size: api.MaxSize, Init: full}}}, "sym x 64"+strings.Repeat(" 0", 64))
	wantProg(t, "an empty Init", api.Prog{Syms: []api.Sym{{Name: "x", Size: 1, Init: []int64{}}}}, "sym x 1")
	wantProg(t, "a full Init of one", api.Prog{Syms: []api.Sym{{Name: "x", Size: 1, Init: []int64{-3}}}}, "sym x 1 -3")
	wantProg(t, "an empty list of labels", api.Prog{Threads: []api.Thread{thread(with(hlt))}}, "thread", "\thlt")

	var p api.Prog
	var lines, threads []string
	for n := range api.MaxSyms {
		name := "s" + strconv.Itoa(n)
		p.Syms = append(p.Syms, api.Sym{Name: name, Size: n + 1})
		p.Threads = append(p.Threads, thread(op(api.Mov, by(n, n%8), imm(int64(n))), hlt))
		lines = append(lines, "sym "+name+" "+strconv.Itoa(n+1))
		reg := strings.Fields("rax rbx rcx rdx rsi rdi r8 r9")[n%8]
		threads = append(threads, "thread", "\tmov "+name+"["+reg+"], "+strconv.Itoa(n), "\thlt")
	}
	wantProg(t, "as many of both as may be", p, append(lines, threads...)...)
}

func TestP902Long(t *testing.T) {
	list := slices.Repeat([]api.Ins{op(api.Add, by(0, 3), r9), {Op: api.Mfence}}, api.MaxIns-1)
	list = append(list, with(hlt, "end"))
	want := append([]string{"sym x 9", "thread"}, slices.Repeat([]string{"\tadd x[rdx], r9", "\tmfence"}, api.MaxIns-1)...)
	p := api.Prog{Syms: []api.Sym{{Name: "x", Size: 9}}, Threads: []api.Thread{{Ins: list}}}
	wantProg(t, "as long as may be", p, append(want, "end:", "\thlt")...)
	p.Threads[0].Ins = append(slices.Clone(list), hlt)
	wantProg(t, "one more", p)
}

func TestP902Wrong(t *testing.T) {
	faults := map[string]func(p *api.Prog){
		"many symbols":         func(p *api.Prog) { p.Syms = make([]api.Sym, api.MaxSyms+1) },
		"many threads":         func(p *api.Prog) { p.Threads = slices.Repeat(p.Threads[1:2], api.MaxThreads+1) },
		"a symbol's name":      func(p *api.Prog) { p.Syms[2].Name = "mov" },
		"a name twice":         func(p *api.Prog) { p.Syms[2].Name = "x" },
		"a size":               func(p *api.Prog) { p.Syms[1].Size = 65 },
		"no size":              func(p *api.Prog) { p.Syms[1].Size = 0 },
		"a long Init":          func(p *api.Prog) { p.Syms[2].Init = make([]int64, 3) },
		"a symbol is gone":     func(p *api.Prog) { p.Syms = p.Syms[:2] },
		"all symbols are gone": func(p *api.Prog) { p.Syms = nil },
		"a label":              func(p *api.Prog) { p.Threads[2].Ins[0].Labels[0] = "1a" },
		"a label twice":        func(p *api.Prog) { p.Threads[0].Ins[5].Labels[1] = "end" },
		"a form":               func(p *api.Prog) { p.Threads[2].Ins[0].Op = 0 },
		"a jump's name":        func(p *api.Prog) { p.Threads[2].Ins[1].To = "mov" },
		"a jump to none":       func(p *api.Prog) { p.Threads[2].Ins[1].To = "c" },
		"a place":              func(p *api.Prog) { p.Threads[0].Ins[0].A.N = 3 },
		"no instruction":       func(p *api.Prog) { p.Threads[1].Ins = nil },
		"no end":               func(p *api.Prog) { p.Threads[1].Ins[0].Op = api.Nop },
	}
	for what, lay := range faults {
		p := sample()
		lay(&p)
		if valid.Check(p) == api.OK {
			t.Errorf("%s: it may be", what)
		}
		wantProg(t, what, p)
	}
}

// spelledProg is P902, sentence by sentence, of a program that may be.
func spelledProg(p api.Prog) []string {
	var out, syms []string
	for _, s := range p.Syms {
		syms = append(syms, s.Name)
		out = append(out, strings.TrimSpace(fmt.Sprintln("sym", s.Name, s.Size, strings.Trim(fmt.Sprint(s.Init), "[]"))))
	}
	for _, t := range p.Threads {
		out = append(out, "thread")
		for _, i := range t.Ins {
			for _, l := range i.Labels {
				out = append(out, l+":")
			}
			out = append(out, "\t"+spelledIns(i, syms))
		}
	}
	return out
}

// dice are numbers that seem to follow no rule, the same in each run.
type dice uint64

func (d *dice) roll(n int) int {
	*d = *d*6364136223846793005 + 1442695040888963407
	return int(uint64(*d)>>33) % n
}

// jumbled is a program of any kind; many of them may not be.
func jumbled(d *dice) api.Prog {
	var p api.Prog
	for n := range d.roll(4) {
		s := api.Sym{Name: string(rune('a' + n)), Size: 1 + d.roll(3)}
		for range d.roll(s.Size + 1) {
			s.Init = append(s.Init, int64(d.roll(9)-4)<<d.roll(60))
		}
		p.Syms = append(p.Syms, s)
	}
	labels := []string{"a", "b", "c", "d"}
	for range d.roll(4) {
		var th api.Thread
		for range d.roll(3) {
			forms := []api.Ins{
				nop, hlt, {Op: api.Mfence}, jmp(labels[d.roll(4)]), jcc(d.roll(10)+1, labels[d.roll(4)]),
				op(d.roll(7)+1, at(d.roll(3), int64(d.roll(2))), imm(int64(d.roll(5)-2))),
				op(d.roll(7)+1, rbx, by(d.roll(3), d.roll(8))), op(api.Xchg, by(d.roll(3), d.roll(8)), r9),
				lock(op(api.Cmpxchg, at(d.roll(3), 0), rax)), lock(op(d.roll(5)+2, by(d.roll(3), 1), rax)),
			}
			th.Ins = append(th.Ins, forms[d.roll(len(forms))])
		}
		th.Ins = append(th.Ins, []api.Ins{hlt, jmp(labels[d.roll(4)])}[d.roll(2)])
		for _, l := range labels[:d.roll(5)] {
			i := &th.Ins[d.roll(len(th.Ins))]
			i.Labels = append(slices.Clone(i.Labels), l)
		}
		p.Threads = append(p.Threads, th)
	}
	return p
}

func TestP902AllKinds(t *testing.T) {
	d := dice(9)
	seen := map[bool]int{}
	for range 20000 {
		p := jumbled(&d)
		may := valid.Check(p) == api.OK
		seen[may]++
		if may {
			wantProg(t, "jumbled", p, spelledProg(p)...)
		} else {
			wantProg(t, "jumbled", p)
		}
		if t.Failed() {
			return
		}
	}
	if seen[true] < 2000 || seen[false] < 2000 {
		t.Errorf("%d may be, %d may not", seen[true], seen[false])
	}
}

func TestP902ChangesNothing(t *testing.T) {
	p := sample()
	first := Prog(p)
	if !reflect.DeepEqual(p, sample()) {
		t.Error("Prog has changed what it was handed")
	}
	p.Syms[0].Init[0] = 5
	p.Threads[0].Ins[0].Labels[0] = "q"
	second := Prog(p)
	if first == second || first != Prog(sample()) {
		t.Error("what is told hangs on what was told before")
	}
	syms := []string{"x", "y", "z"}
	Ins(op(api.Mov, at(1, 1), rax), syms[:2]...)
	if !slices.Equal(syms, []string{"x", "y", "z"}) {
		t.Error("Ins has changed the names")
	}
}
