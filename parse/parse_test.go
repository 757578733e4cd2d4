package parse

import (
	"fmt"
	"math"
	"reflect"
	"slices"
	"strconv"
	"strings"
	"testing"

	"paling/api"
	"paling/show"
	"paling/valid"
)

var (
	rax = api.Opd{Kind: api.KReg}
	rbx = api.Opd{Kind: api.KReg, Reg: 1}
	r9  = api.Opd{Kind: api.KReg, Reg: 7}
	nop = api.Ins{Op: api.Nop}
	hlt = api.Ins{Op: api.Hlt}
)

func imm(n int64) api.Opd { return api.Opd{Kind: api.KNum, N: n} }

func at(sym int, n int64) api.Opd { return api.Opd{Kind: api.KAt, Sym: sym, N: n} }

func by(sym, reg int) api.Opd { return api.Opd{Kind: api.KBy, Sym: sym, Reg: reg} }

func op(n int, a, b api.Opd) api.Ins { return api.Ins{Op: n, A: a, B: b} }

func jmp(to string) api.Ins { return api.Ins{Op: api.Jmp, To: to} }

func jcc(cond int, to string) api.Ins { return api.Ins{Op: api.Jcc, Cond: cond, To: to} }

func lock(i api.Ins) api.Ins {
	i.Lock = true
	return i
}

// with is i with these labels, in memory of their own.
func with(i api.Ins, labels ...string) api.Ins {
	i.Labels = slices.Clone(labels)
	return i
}

func threads(list ...[]api.Ins) []api.Thread {
	var out []api.Thread
	for _, l := range list {
		out = append(out, api.Thread{Ins: l})
	}
	return out
}

// text has each line with a byte 10 at its end.
func text(lines ...string) string {
	s := ""
	for _, l := range lines {
		s += l + "\n"
	}
	return s
}

func short(s string) string {
	if len(s) > 200 {
		return s[:200] + ".."
	}
	return s
}

func wantProg(t *testing.T, s string, want api.Prog) {
	t.Helper()
	got, fault := Parse(s)
	if fault != (api.Fault{}) || !valid.Same(got, want) {
		t.Errorf("Parse(%q): %s %v, not %s", short(s), short(fmt.Sprint(got)), fault, short(fmt.Sprint(want)))
	}
	if code := valid.Check(got); code != api.OK {
		t.Errorf("Parse(%q) may not be: %d", short(s), code)
	}
}

func wantFault(t *testing.T, s string, code api.Code, line, col int) {
	t.Helper()
	want := api.Fault{Code: code, Line: line, Col: col}
	got, fault := Parse(s)
	if fault != want {
		t.Errorf("Parse(%q): %v, not %v", short(s), fault, want)
	}
	if got.Syms != nil || got.Threads != nil {
		t.Errorf("Parse(%q): a program beside %v", short(s), fault)
	}
}

// ahead has two symbols, of two cells and of one, and begins a thread; what follows stands on line 4.
const ahead = "sym x 2\nsym y 1\nthread\n"

// wantIns asks for an instruction on a line of its own.
func wantIns(t *testing.T, line string, want api.Ins) {
	t.Helper()
	syms := []api.Sym{{Name: "x", Size: 2}, {Name: "y", Size: 1}}
	wantProg(t, ahead+line+"\ntop: hlt", api.Prog{Syms: syms, Threads: threads([]api.Ins{want, with(hlt, "top")})})
}

// wantInsFault asks for a fault in that column of the line.
func wantInsFault(t *testing.T, line string, code api.Code, col int) {
	t.Helper()
	wantFault(t, ahead+line+"\ntop: hlt", code, 4, col)
	wantFault(t, ahead+line, code, 4, col)
	wantFault(t, ahead+line+" ; a remark\n", code, 4, colAtEnd(line, col))
}

// colAtEnd is where a fault in that column goes, if 11 runes of blanks and a remark are put behind the line.
func colAtEnd(line string, col int) int {
	if col == len([]rune(line))+1 {
		return col + 11
	}
	return col
}

func TestP1001NothingToTell(t *testing.T) {
	for _, s := range []string{"", " ", "\t", "\n", "\n\n", " \n\t\n  ", ";", "; sym", " ; a\n;b\n\n\t;c"} {
		wantProg(t, s, api.Prog{})
	}
}

func TestP1001Example(t *testing.T) {
	wantProg(t, "sym x 2 7", api.Prog{Syms: []api.Sym{{Name: "x", Size: 2, Init: []int64{7}}}})
	wantFault(t, "mov rax, 1", api.ErrForm, 1, 1)
}

func TestP1001TheDocumentsText(t *testing.T) {
	half := func(mine, other int) []api.Ins {
		return []api.Ins{op(api.Mov, at(mine, 0), imm(1)), op(api.Mov, rax, at(other, 0)), hlt}
	}
	wantProg(t, text("sym x 1", "sym y 1", "thread", "\tmov x[0], 1", "\tmov rax, y[0]", "\thlt", "thread", "\tmov y[0], 1", "\tmov rax, x[0]", "\thlt"),
		api.Prog{Syms: []api.Sym{{Name: "x", Size: 1}, {Name: "y", Size: 1}}, Threads: threads(half(0, 1), half(1, 0))})
}

// whole is a text with all kinds of things, and wholeProg what it says.
func whole() string {
	return text("; a text", "sym x 3 -1 0", "  sym été 64 ; of many cells", "", "\tsym z_1 2 -9223372036854775808 9223372036854775807",
		"thread ; the first", "a:", "", "b: ; on a line of its own", "c: d : mov x[2], 1", "mfence", "cmp été [ rcx ] , r9", "e: jne b",
		"lock\tsub z_1[1], rbx", "lock cmpxchg x[rdi],rax", "xchg x[0],rbx", "end: x: hlt",
		"thread", "hlt", "", "thread", "a: mfence", "add rax,été[63]", "jbe a", "nop", "jmp a") + "; no more"
}

func wholeProg() api.Prog {
	return api.Prog{
		Syms: []api.Sym{{Name: "x", Size: 3, Init: []int64{-1, 0}}, {Name: "été", Size: 64}, {Name: "z_1", Size: 2, Init: []int64{math.MinInt64, math.MaxInt64}}},
		Threads: threads(
			[]api.Ins{
				with(op(api.Mov, at(0, 2), imm(1)), "a", "b", "c", "d"), {Op: api.Mfence}, op(api.Cmp, by(1, 2), r9), with(jcc(api.Ne, "b"), "e"),
				lock(op(api.Sub, at(2, 1), rbx)), lock(op(api.Cmpxchg, by(0, 5), rax)), op(api.Xchg, at(0, 0), rbx), with(hlt, "end", "x"),
			},
			[]api.Ins{hlt},
			[]api.Ins{with(api.Ins{Op: api.Mfence}, "a"), op(api.Add, rax, at(1, 63)), jcc(api.Be, "a"), nop, jmp("a")},
		),
	}
}

func TestP1001Whole(t *testing.T) {
	wantProg(t, whole(), wholeProg())
	wantProg(t, whole()+"\n\n", wholeProg())
}

func TestP1001TokensFirst(t *testing.T) {
	wantFault(t, "nop\n$", api.ErrRune, 2, 1)
	wantFault(t, "sym x 0\nthread\n\n mov 007", api.ErrNum, 4, 6)
	wantFault(t, "thread\nmov abcdefghijklmnopq", api.ErrName, 2, 5)
	wantFault(t, "thread ; \xff", api.ErrRune, 1, 10)
	wantFault(t, "sym x 12a", api.ErrNum, 1, 7)
	wantFault(t, "sym x 9223372036854775808", api.ErrNum, 1, 7)
	wantFault(t, "sym x 1\r\n", api.ErrRune, 1, 8)
}

func TestP1001LinesAheadOfThreads(t *testing.T) {
	wantFault(t, "thread\nthread\nmov", api.ErrForm, 3, 4)
	wantFault(t, "thread\njmp a\nthread\nnop nop", api.ErrForm, 4, 5)
	wantFault(t, "thread\njmp a\nhlt\nsym x 1", api.ErrForm, 4, 1)
	wantFault(t, "thread\njmp b\nthread\nhlt\nb: b: hlt", api.ErrDup, 5, 4)
	long := "thread\n" + strings.Repeat("nop\n", api.MaxIns) + "hlt\n"
	wantFault(t, long+"mov rax", api.ErrForm, api.MaxIns+3, 8)
}

func TestP1001FirstFault(t *testing.T) {
	wantFault(t, "sym x 0\nsym mov 1", api.ErrSize, 1, 7)
	wantFault(t, "sym mov 0 x", api.ErrName, 1, 5)
	wantFault(t, "sym x 1\nsym x 0 a", api.ErrDup, 2, 5)
	wantFault(t, "sym x 65 a", api.ErrSize, 1, 7)
	wantFault(t, "sym x 1 1 2 a", api.ErrSize, 1, 11)
	wantFault(t, "sym x 1 a 2 3", api.ErrForm, 1, 9)
	wantFault(t, "thread a\nnop nop", api.ErrForm, 1, 8)
	wantFault(t, "thread\na: mov: a: b", api.ErrName, 2, 4)
	wantFault(t, "thread\na: a: mov:", api.ErrDup, 2, 4)
	wantFault(t, "thread\na: a: foo 7", api.ErrDup, 2, 4)
	wantFault(t, "thread\na: foo 7\na: nop", api.ErrForm, 2, 4)
	wantInsFault(t, "mov z[mov], 1 2", api.ErrNone, 5)
	wantInsFault(t, "mov x[2, 1 2", api.ErrPlace, 7)
	wantInsFault(t, "mov 1 z[0]", api.ErrForm, 5)
	wantInsFault(t, "mov rax z[0]", api.ErrForm, 9)
	wantInsFault(t, "jmp mov 5", api.ErrName, 5)
	wantInsFault(t, "foo: bar: foo: lock", api.ErrDup, 11)
}

func TestP1001ChangesAndSharesNothing(t *testing.T) {
	first, _ := Parse(whole())
	second, _ := Parse(whole())
	first.Syms[0].Init[0] = 5
	first.Syms[0].Init = append(first.Syms[0].Init, 6, 7, 8)
	for n := range first.Threads {
		for k := range first.Threads[n].Ins {
			i := &first.Threads[n].Ins[k]
			for l := range i.Labels {
				i.Labels[l] = "q"
			}
			i.Labels = append(i.Labels, "r", "s")
		}
	}
	if !valid.Same(second, wholeProg()) {
		t.Error("what was told has changed with what was told before")
	}
	third, _ := Parse(whole())
	for k := range third.Threads[0].Ins {
		before := slices.Clone(third.Threads[0].Ins)
		third.Threads[0].Ins[k].Labels = append(third.Threads[0].Ins[k].Labels, "q")
		for n := range before {
			if n != k && !slices.Equal(before[n].Labels, third.Threads[0].Ins[n].Labels) {
				t.Errorf("the labels of %d and %d share memory", k, n)
			}
		}
	}
	if fourth, _ := Parse(whole()); !reflect.DeepEqual(fourth, second) {
		t.Error("what is told hangs on what was told before")
	}
}

func TestP1002Symbols(t *testing.T) {
	sym := func(name string, size int, init ...int64) api.Sym { return api.Sym{Name: name, Size: size, Init: init} }
	one := func(s string, want api.Sym) {
		t.Helper()
		wantProg(t, s, api.Prog{Syms: []api.Sym{want}})
	}
	one("sym x 1", sym("x", 1))
	one("\tsym\tx\t1\t;", sym("x", 1))
	one("sym x 64", sym("x", 64))
	one("sym x 1 -3", sym("x", 1, -3))
	one("sym x 3 5 0", sym("x", 3, 5, 0))
	one("sym x 2 -9223372036854775808 9223372036854775807", sym("x", 2, math.MinInt64, math.MaxInt64))
	one("sym x 64"+strings.Repeat(" 0", 64), sym("x", 64, make([]int64, 64)...))
	one("sym abcdefghijklmnop 1", sym("abcdefghijklmnop", 1))
	one("sym été 2 7-7", sym("été", 2, 7, -7))
	for _, name := range []string{"Sym", "r10", "_", "movs", "symx", "jz", "rAx", "\ufffd"} {
		one("sym "+name+" 1", sym(name, 1))
	}
	wantProg(t, "sym x 1\nsym X 2 1", api.Prog{Syms: []api.Sym{sym("x", 1), sym("X", 2, 1)}})
}

func TestP1002WrongSymbols(t *testing.T) {
	wantFault(t, "sym", api.ErrForm, 1, 4)
	wantFault(t, "sym \n", api.ErrForm, 1, 5)
	wantFault(t, " sym ;x", api.ErrForm, 1, 8)
	for _, s := range []string{"5", ":", ",", "[", "]", "-7 1"} {
		wantFault(t, "sym "+s, api.ErrForm, 1, 5)
	}
	wantFault(t, "sym:", api.ErrForm, 1, 4)
	for _, s := range []string{"sym", "thread", "lock", "rax", "r9", "mov", "cmpxchg", "jmp", "jae", "mfence", "nop", "hlt"} {
		wantFault(t, "sym "+s, api.ErrName, 1, 5)
		wantFault(t, "sym "+s+" 0", api.ErrName, 1, 5)
	}
	wantFault(t, "sym x 1\nsym y 1\n sym x", api.ErrDup, 3, 6)
	wantFault(t, "sym x", api.ErrForm, 1, 6)
	wantFault(t, "sym x\n1", api.ErrForm, 1, 6)
	for _, s := range []string{"y", ":", ",", "[1]", "rax"} {
		wantFault(t, "sym x "+s, api.ErrForm, 1, 7)
	}
	for _, s := range []string{"0", "-1", "65", "9223372036854775807", "-9223372036854775808", "4294967297"} {
		wantFault(t, "sym x "+s, api.ErrSize, 1, 7)
	}
	for _, s := range []string{"y", ":", ",", "]", "sym"} {
		wantFault(t, "sym x 1 "+s, api.ErrForm, 1, 9)
		wantFault(t, "sym x 1 5 "+s, api.ErrForm, 1, 11)
	}
	wantFault(t, "sym x 1 5 6", api.ErrSize, 1, 11)
	wantFault(t, "sym x 2 5 6 7 8", api.ErrSize, 1, 13)
	wantFault(t, "sym x 64"+strings.Repeat(" 0", 65), api.ErrSize, 1, 138)
	wantFault(t, "thread\nhlt\n sym", api.ErrForm, 3, 2)
	wantFault(t, "thread\nsym x 1", api.ErrForm, 2, 1)
	wantFault(t, "sym x 1\nthread\nsym x 1", api.ErrForm, 3, 1)
}

// many has so many lines, each of which is made of its number.
func many(n int, line func(int) string) string {
	s := ""
	for k := range n {
		s += line(k) + "\n"
	}
	return s
}

func TestP1002Many(t *testing.T) {
	syms := many(api.MaxSyms, func(n int) string { return "sym s" + strconv.Itoa(n) + " 1" })
	rest := many(api.MaxThreads, func(n int) string { return "thread\nmov s" + strconv.Itoa(n) + "[rbx], 1\nhlt" })
	var p api.Prog
	for n := range api.MaxSyms {
		p.Syms = append(p.Syms, api.Sym{Name: "s" + strconv.Itoa(n), Size: 1})
		p.Threads = append(p.Threads, threads([]api.Ins{op(api.Mov, by(n, 1), imm(1)), hlt})...)
	}
	wantProg(t, syms+rest, p)
	wantFault(t, syms+"\n sym y 1", api.ErrMany, api.MaxSyms+2, 2)
	wantFault(t, syms+"sym", api.ErrMany, api.MaxSyms+1, 1)
	wantFault(t, syms+"sym s0 0", api.ErrMany, api.MaxSyms+1, 1)
	wantFault(t, syms+rest+" thread", api.ErrMany, 4*api.MaxSyms+1, 2)
	wantFault(t, syms+rest+"thread a", api.ErrMany, 4*api.MaxSyms+1, 1)
	wantFault(t, syms+rest+"sym y 1", api.ErrForm, 4*api.MaxSyms+1, 1)
}

func TestP1002Threads(t *testing.T) {
	wantProg(t, "thread\nhlt", api.Prog{Threads: threads([]api.Ins{hlt})})
	wantProg(t, "thread ;\n\n;\nnop;\n\nhlt\n\n\nthread\nhlt", api.Prog{Threads: threads([]api.Ins{nop, hlt}, []api.Ins{hlt})})
	for _, s := range []string{"a", ":", "5", ",", "thread", "hlt"} {
		wantFault(t, "thread "+s, api.ErrForm, 1, 8)
	}
	wantFault(t, "thread:", api.ErrForm, 1, 7)
	wantFault(t, "thread\nhlt\nthread: hlt", api.ErrForm, 3, 7)
}

func TestP1002NoThreadAhead(t *testing.T) {
	for _, s := range []string{"nop", "a:", "mov: hlt", "lock", "5", "-5", ",", ":", "[", "]", "rax", "foo", "mov rax, x[0]", "jmp a"} {
		wantFault(t, s, api.ErrForm, 1, 1)
		wantFault(t, "sym x 1\n\n "+s+"\nthread\nhlt", api.ErrForm, 3, 2)
	}
}

func TestP1002Labels(t *testing.T) {
	labels := func(s string, want ...string) {
		t.Helper()
		wantProg(t, "thread\n"+s, api.Prog{Threads: threads([]api.Ins{with(hlt, want...)})})
	}
	labels("hlt")
	labels("a: hlt", "a")
	labels("a:hlt", "a")
	labels("a\t:\thlt", "a")
	labels("a:\nhlt", "a")
	labels("a: b:c:\n\n;\nd:\ne: hlt", "a", "b", "c", "d", "e")
	labels("\u00e9t\u00e9: abcdefghijklmnop: hlt", "\u00e9t\u00e9", "abcdefghijklmnop")
	labels("b: a: hlt", "b", "a")
	wantProg(t, "sym x 1\nthread\nx: hlt\nthread\nx: jmp x", api.Prog{
		Syms:    []api.Sym{{Name: "x", Size: 1}},
		Threads: threads([]api.Ins{with(hlt, "x")}, []api.Ins{with(jmp("x"), "x")}),
	})
	wantProg(t, "thread\na: nop\nb:\nc: nop\nd: hlt", api.Prog{Threads: threads([]api.Ins{with(nop, "a"), with(nop, "b", "c"), with(hlt, "d")})})
}

func TestP1002WrongLabels(t *testing.T) {
	for _, s := range []string{"mov", "lock", "rax", "hlt", "jmp", "cmpxchg"} {
		wantInsFault(t, s+": hlt", api.ErrName, 1)
		wantInsFault(t, "a: "+s+":", api.ErrName, 4)
	}
	wantInsFault(t, "a: sym: hlt", api.ErrName, 4)
	wantInsFault(t, "a: thread: hlt", api.ErrName, 4)
	wantInsFault(t, "a: a: hlt", api.ErrDup, 4)
	wantFault(t, "thread\na:\na: hlt", api.ErrDup, 3, 1)
	wantFault(t, "thread\nb: a: nop\nc: nop\n b: hlt", api.ErrDup, 4, 2)
	wantInsFault(t, ": hlt", api.ErrForm, 1)
	wantInsFault(t, "a:: hlt", api.ErrForm, 3)
	wantInsFault(t, "5: hlt", api.ErrForm, 1)
	wantInsFault(t, "a: 5: hlt", api.ErrForm, 4)
	wantInsFault(t, "a hlt", api.ErrForm, 1)
	wantInsFault(t, "a: b", api.ErrForm, 4)
	wantFault(t, "thread\na\n: hlt", api.ErrForm, 2, 1)
	wantFault(t, "thread\na: thread", api.ErrForm, 2, 4)
	wantFault(t, "thread\na: sym x 1", api.ErrForm, 2, 4)
	wantInsFault(t, "hlt a:", api.ErrForm, 5)
}

func TestP1002Instructions(t *testing.T) {
	words := map[string]int{"mov": api.Mov, "add": api.Add, "sub": api.Sub, "and": api.And, "or": api.Or, "xor": api.Xor, "cmp": api.Cmp}
	for word, n := range words {
		wantIns(t, word+" rax, r9", op(n, rax, r9))
		wantIns(t, word+" rax,-5", op(n, rax, imm(-5)))
		wantIns(t, word+" r9, x[1]", op(n, r9, at(0, 1)))
		wantIns(t, word+" rbx, y[rdi]", op(n, rbx, by(1, 5)))
		wantIns(t, word+" y[0], rbx", op(n, at(1, 0), rbx))
		wantIns(t, word+" x [ rax ] , 9223372036854775807", op(n, by(0, 0), imm(math.MaxInt64)))
		if n == api.Mov || n == api.Cmp {
			wantInsFault(t, "lock "+word+" x[0], rax", api.ErrForm, 6)
			continue
		}
		wantIns(t, "lock "+word+" x[0], rax", lock(op(n, at(0, 0), rax)))
		wantIns(t, "lock "+word+" y[rcx], -9223372036854775808", lock(op(n, by(1, 2), imm(math.MinInt64))))
		c := len("lock ") + len(word) + 2
		wantInsFault(t, "lock "+word+" rax, x[0]", api.ErrForm, c)
		wantInsFault(t, "lock "+word+" 5, rax", api.ErrForm, c)
		wantInsFault(t, "lock "+word+" x[0], y[0]", api.ErrForm, c+6)
	}
	wantIns(t, "xchg x[1], rbx", op(api.Xchg, at(0, 1), rbx))
	wantIns(t, "xchg y[r8], r9", op(api.Xchg, by(1, 6), r9))
	wantIns(t, "lock cmpxchg x[1], rbx", lock(op(api.Cmpxchg, at(0, 1), rbx)))
	wantIns(t, "lock cmpxchg y[rsi], rax", lock(op(api.Cmpxchg, by(1, 4), rax)))
	for word, n := range map[string]int{"mfence": api.Mfence, "nop": api.Nop, "hlt": api.Hlt} {
		wantIns(t, word, api.Ins{Op: n})
		wantIns(t, "\t"+word+" ; a", api.Ins{Op: n})
		wantInsFault(t, word+" 5", api.ErrForm, len(word)+2)
		wantInsFault(t, word+" rax, rbx", api.ErrForm, len(word)+2)
		wantInsFault(t, "lock "+word, api.ErrForm, 6)
	}
	for r, reg := range strings.Fields("rax rbx rcx rdx rsi rdi r8 r9") {
		wantIns(t, "mov "+reg+", x["+reg+"]", op(api.Mov, api.Opd{Kind: api.KReg, Reg: r}, by(0, r)))
	}
}

func TestP1002Jumps(t *testing.T) {
	wantIns(t, "jmp top", jmp("top"))
	wantIns(t, "x: jmp x", with(jmp("x"), "x"))
	for n, word := range strings.Fields("je jne jl jle jg jge jb jbe ja jae") {
		wantIns(t, word+" top", jcc(n+1, "top"))
		c := len(word) + 2
		wantInsFault(t, word, api.ErrForm, c-1)
		wantInsFault(t, word+" 5", api.ErrForm, c)
		wantInsFault(t, word+" [", api.ErrForm, c)
		wantInsFault(t, word+" ,", api.ErrForm, c)
		wantInsFault(t, word+" rax", api.ErrName, c)
		wantInsFault(t, word+" "+word, api.ErrName, c)
		wantInsFault(t, word+" thread", api.ErrName, c)
		wantInsFault(t, word+" top 5", api.ErrForm, c+4)
		wantInsFault(t, word+" top:", api.ErrForm, c+3)
		wantInsFault(t, word+" top top", api.ErrForm, c+4)
		wantInsFault(t, "lock "+word+" top", api.ErrForm, 6)
	}
	wantInsFault(t, "jmp", api.ErrForm, 4)
	wantInsFault(t, "jmp -1", api.ErrForm, 5)
	wantInsFault(t, "jmp jmp", api.ErrName, 5)
	wantInsFault(t, "lock jmp top", api.ErrForm, 6)
}

func TestP1002WrongWords(t *testing.T) {
	for _, s := range []string{"foo", "rax", "cmpxchg", "5", "-5", ",", "[", "]", "movs", "MOV", "jz"} {
		wantInsFault(t, s, api.ErrForm, 1)
		wantInsFault(t, s+" x[0], rax", api.ErrForm, 1)
		wantInsFault(t, "lock "+strings.TrimPrefix(s, "cmp"), api.ErrForm, 6)
		wantInsFault(t, "a: "+s+" x[0], rax", api.ErrForm, 4)
	}
	wantInsFault(t, "lock", api.ErrForm, 5)
	wantInsFault(t, "lock lock add x[0], 1", api.ErrForm, 6)
	wantInsFault(t, "lock sym", api.ErrForm, 6)
	wantInsFault(t, "lock a: add x[0], 1", api.ErrForm, 6)
	wantInsFault(t, "lock xchg x[0], rax", api.ErrForm, 6)
	wantInsFault(t, "lock :", api.ErrName, 1)
	wantInsFault(t, "mov :", api.ErrName, 1)
	wantFault(t, ahead+"lock\nadd x[0], 1\nhlt", api.ErrForm, 4, 5)
}

func TestP1002OperandsThatLack(t *testing.T) {
	for _, word := range []string{"mov", "cmp", "add", "sub", "and", "or", "xor", "xchg", "lock add", "lock sub", "lock and", "lock or", "lock xor", "lock cmpxchg"} {
		c := len(word)
		wantInsFault(t, word, api.ErrForm, c+1)
		for _, s := range []string{",", "[", "]"} {
			wantInsFault(t, word+" "+s, api.ErrForm, c+2)
			wantInsFault(t, word+" x[1], "+s, api.ErrForm, c+8)
		}
		for _, s := range []string{",", "]", ":", "5", "y"} {
			wantInsFault(t, word+" x "+s, api.ErrForm, c+4)
		}
		for _, s := range []string{"[", "]", ":", "5", "y"} {
			wantInsFault(t, word+" x[1] "+s, api.ErrForm, c+7)
		}
		wantInsFault(t, word+" x", api.ErrForm, c+3)
		wantInsFault(t, word+" x[", api.ErrForm, c+4)
		wantInsFault(t, word+" x[1", api.ErrForm, c+5)
		wantInsFault(t, word+" x[1]", api.ErrForm, c+6)
		wantInsFault(t, word+" x[1] rax", api.ErrForm, c+7)
		wantInsFault(t, word+" x[1],", api.ErrForm, c+7)
		wantInsFault(t, word+" x[1], rax,", api.ErrForm, c+11)
		wantInsFault(t, word+" x[1], rax 5", api.ErrForm, c+12)
	}
}

func TestP1002Cells(t *testing.T) {
	for _, form := range []string{"mov %s, rax", "cmp %s, 1", "mov rax, %s", "xor rbx, %s", "lock or %s, 1", "xchg %s, rax", "lock cmpxchg %s, rax"} {
		c := strings.Index(form, "%")
		told := func(operand string, code api.Code, col int) {
			t.Helper()
			wantInsFault(t, fmt.Sprintf(form, operand), code, c+col)
		}
		for _, n := range []string{"2", "-1", "64", "9223372036854775807", "-9223372036854775808", "4294967296"} {
			told("x["+n+"]", api.ErrPlace, 3)
		}
		told("y[1]", api.ErrPlace, 3)
		told("y[2", api.ErrPlace, 3)
		told("z[0]", api.ErrNone, 1)
		told("X[0]", api.ErrNone, 1)
		told("top[0]", api.ErrNone, 1)
		told("mov[0]", api.ErrName, 1)
		told("sym[0]", api.ErrName, 1)
		told("lock", api.ErrName, 1)
		told("z", api.ErrNone, 1)
		told("[0]", api.ErrForm, 1)
		told("x 0", api.ErrForm, 3)
		told("x]", api.ErrForm, 2)
		told("x[]", api.ErrForm, 3)
		told("x[x]", api.ErrForm, 3)
		told("x[z]", api.ErrForm, 3)
		told("x[mov]", api.ErrForm, 3)
		told("x[[0]]", api.ErrForm, 3)
		told("x[0[", api.ErrForm, 4)
		told("x[0 0]", api.ErrForm, 5)
		told("x[rax 0]", api.ErrForm, 7)
		told("x[0,0]", api.ErrForm, 4)
		told("rax[0]", api.ErrForm, map[bool]int{true: 1, false: 4}[strings.Contains(form, "lock") || strings.Contains(form, "xchg")])
	}
	wantIns(t, "mov x[0], 1", op(api.Mov, at(0, 0), imm(1)))
	wantIns(t, "mov x[1], 1", op(api.Mov, at(0, 1), imm(1)))
	wantProg(t, "sym x 64\nthread\nmov rax, x[63]\nhlt", api.Prog{Syms: []api.Sym{{Name: "x", Size: 64}}, Threads: threads([]api.Ins{op(api.Mov, rax, at(0, 63)), hlt})})
	wantFault(t, "sym x 64\nthread\nmov rax, x[64]\nhlt", api.ErrPlace, 3, 12)
}

func TestP1002OperandsThatMayNotStand(t *testing.T) {
	for _, word := range []string{"mov", "cmp", "add", "sub", "and", "or", "xor"} {
		c := len(word) + 2
		wantInsFault(t, word+" 1, rax", api.ErrForm, c)
		wantInsFault(t, word+" 1", api.ErrForm, c)
		wantInsFault(t, word+" x[0], y[0]", api.ErrForm, c+6)
		wantInsFault(t, word+" x[0], x[rax] 5", api.ErrForm, c+6)
		wantInsFault(t, word+" x[rax], y[0]", api.ErrForm, c+8)
		// What is wrong inside an operand is told ahead of that it may not stand there.
		wantInsFault(t, word+" x[0], y[1]", api.ErrPlace, c+8)
		wantInsFault(t, word+" x[0], z[0]", api.ErrNone, c+6)
		wantInsFault(t, word+" x[0], hlt", api.ErrName, c+6)
		wantInsFault(t, word+" x[0], y[0", api.ErrForm, c+9)
	}
	for _, word := range []string{"xchg", "lock cmpxchg"} {
		c := len(word) + 2
		wantInsFault(t, word+" rax, rbx", api.ErrForm, c)
		wantInsFault(t, word+" rax, x[0]", api.ErrForm, c)
		wantInsFault(t, word+" 1, rbx", api.ErrForm, c)
		wantInsFault(t, word+" rax", api.ErrForm, c)
		wantInsFault(t, word+" x[0], 1", api.ErrForm, c+6)
		wantInsFault(t, word+" x[0], 1 2", api.ErrForm, c+6)
		wantInsFault(t, word+" x[0], y[0]", api.ErrForm, c+6)
		wantInsFault(t, word+" x[0], y[rax]", api.ErrForm, c+6)
		wantInsFault(t, word+" x[0], y[1]", api.ErrPlace, c+8)
	}
}

func TestP1003End(t *testing.T) {
	wantFault(t, "thread", api.ErrEnd, 1, 1)
	wantFault(t, "thread\n\n;\n", api.ErrEnd, 1, 1)
	wantFault(t, "sym x 1\n\n  thread ; a", api.ErrEnd, 3, 3)
	wantFault(t, "thread\nhlt\nthread", api.ErrEnd, 3, 1)
	wantFault(t, "thread\nthread\nhlt", api.ErrEnd, 1, 1)
	wantFault(t, "thread\na:", api.ErrEnd, 1, 1)
	wantFault(t, "thread\nhlt\na:\n", api.ErrEnd, 1, 1)
	wantFault(t, "thread\nhlt\na:\nthread\nhlt", api.ErrEnd, 1, 1)
	wantFault(t, "thread\njmp a\na:", api.ErrEnd, 1, 1)
	for _, s := range []string{"nop", "mfence", "mov rax, 1", "a: je a", "cmp rax, rbx"} {
		wantFault(t, "thread\nhlt\n thread\nhlt\n"+s, api.ErrEnd, 3, 2)
		wantFault(t, "thread\n"+s+"\nthread\nhlt", api.ErrEnd, 1, 1)
	}
	wantProg(t, "thread\nhlt\na: jmp a", api.Prog{Threads: threads([]api.Ins{hlt, with(jmp("a"), "a")})})
}

func TestP1003Many(t *testing.T) {
	long := strings.Repeat("mfence\nnop\n", api.MaxIns-1)
	list := slices.Repeat([]api.Ins{{Op: api.Mfence}, nop}, api.MaxIns-1)
	wantProg(t, "thread\n"+long+"mfence\nhlt", api.Prog{Threads: threads(append(slices.Clone(list), api.Ins{Op: api.Mfence}, hlt))})
	line := 2*(api.MaxIns-1) + 3
	wantFault(t, "thread\n"+long+"nop\n hlt", api.ErrMany, line, 2)
	wantFault(t, "thread\n"+long+"nop\na: b: hlt", api.ErrMany, line, 7)
	wantFault(t, "thread\n"+long+"nop\nmfence\nmfence\na:\nb: hlt", api.ErrMany, line+3, 4)
	wantFault(t, "thread\n"+long+"nop\nnop\nnop\nhlt", api.ErrMany, line, 1)
	wantFault(t, "sym x 1\nthread\n"+long+"nop\n c: lock add x[0], 1\nnop\nhlt", api.ErrMany, line+1, 5)
	wantFault(t, "thread\nhlt\nthread\n"+long+"nop\nhlt", api.ErrMany, line+2, 1)
	wantFault(t, "thread\n"+long+"nop\njmp a", api.ErrMany, line, 1)
	// The count begins anew with each thread.
	wantProg(t, "thread\n"+long+"hlt\nthread\n"+long+"hlt", api.Prog{Threads: threads(append(slices.Clone(list), hlt), append(slices.Clone(list), hlt))})
}

func TestP1003Jumps(t *testing.T) {
	wantFault(t, "thread\njmp a", api.ErrNone, 2, 5)
	wantFault(t, "thread\nb: jmp a", api.ErrNone, 2, 8)
	wantFault(t, "thread\na: hlt\nthread\njmp a", api.ErrNone, 4, 5)
	wantFault(t, "thread\njmp a\nthread\na: hlt", api.ErrNone, 2, 5)
	wantFault(t, "thread\nje b\n jl a\nb: hlt", api.ErrNone, 3, 5)
	wantFault(t, "thread\nje c\njl d\nb: jmp c", api.ErrNone, 2, 4)
	wantFault(t, "sym x 1\nthread\nje x\nhlt", api.ErrNone, 3, 4)
	wantFault(t, "thread\nA: jmp a", api.ErrNone, 2, 8)
	wantProg(t, "thread\njmp a\na: je b\nb: jmp a", api.Prog{Threads: threads([]api.Ins{jmp("a"), with(jcc(api.E, "b"), "a"), with(jmp("a"), "b")})})
}

func TestP1003Order(t *testing.T) {
	wantFault(t, "thread\nje q\nthread\nnop", api.ErrEnd, 1, 1)
	wantFault(t, "thread\njmp q\nthread\nnop", api.ErrNone, 2, 5)
	wantFault(t, "thread\nhlt\nthread\njmp q\nthread\n", api.ErrNone, 4, 5)
	long := "thread\nje q\n" + strings.Repeat("nop\n", api.MaxIns)
	wantFault(t, long, api.ErrEnd, 1, 1)
	wantFault(t, long+"hlt", api.ErrMany, api.MaxIns+2, 1)
	wantFault(t, long+"hlt\na:", api.ErrEnd, 1, 1)
	wantFault(t, long+"hlt\nthread", api.ErrMany, api.MaxIns+2, 1)
	wantFault(t, "thread\njmp q\n"+long+"hlt", api.ErrNone, 2, 5)
}

func TestP1004Whole(t *testing.T) {
	p := wholeProg()
	wantProg(t, show.Prog(p), p)
	wantProg(t, show.Prog(api.Prog{}), api.Prog{})
}
