package core

import (
	"math"
	"slices"
	"testing"

	"paling/api"
	"paling/parse"
	"paling/valid"
)

const (
	least    = math.MinInt64
	greatest = math.MaxInt64
)

// head has three symbols, and a thread with other instructions, and labels of the same names, at all places.
const head = `
sym x 2 7
sym y 3
sym z 1 -5
thread
	xchg z[0], r9
last: mfence
mid: first: add z[0], 9
	mov z[0], 9
	hlt
thread
`

func read(t *testing.T, s string) api.Prog {
	t.Helper()
	p, fault := parse.Parse(s)
	if fault.Code != api.OK {
		t.Fatalf("%q is refused: %v", s, fault)
	}
	return p
}

// one has the instruction s at place 1 of thread 1; a thread lies ahead of that one, and one behind it.
func one(t *testing.T, s string) *Core {
	t.Helper()
	c := Make(read(t, head+"first: nop\n"+s+"\nmid: nop\nlast: jmp first\nthread\nmid: last: hlt\nnop\nfirst: hlt"))
	if c == nil {
		t.Fatalf("there is no core with %q", s)
	}
	return c
}

type turn func(x *api.Thr)

func pc(n int) turn { return func(x *api.Thr) { x.PC = n } }

func phase(n int) turn { return func(x *api.Thr) { x.Phase = n } }

func status(n int) turn { return func(x *api.Thr) { x.Status = n } }

func latch(n int64) turn { return func(x *api.Thr) { x.Latch = n } }

func reg(r int, n int64) turn { return func(x *api.Thr) { x.Regs[r] = n } }

// flags sets just those whose letters stand in s.
func flags(s string) turn { return func(x *api.Thr) { x.Flags = flagsOf(s) } }

func flagsOf(s string) api.Flags {
	has := func(r rune) bool { return slices.Contains([]rune(s), r) }
	return api.Flags{Z: has('Z'), S: has('S'), C: has('C'), O: has('O')}
}

func with(x api.Thr, turns ...turn) api.Thr {
	for _, do := range turns {
		do(&x)
	}
	return x
}

// at is a thread at place 1, in which no field is what it begins with, but Phase and Status.
func at(turns ...turn) api.Thr {
	x := api.Thr{Regs: [8]int64{10, -20, 1, 2, 0, least, greatest, 3}, Flags: flagsOf("SO"), PC: 1, Latch: 77}
	return with(x, turns...)
}

// half is such a thread that has read v, and is to write.
func half(v int64, turns ...turn) api.Thr { return with(at(phase(1), latch(v)), turns...) }

func deed(kind, addr int, val int64) api.Deed { return api.Deed{Kind: kind, Addr: addr, Val: val} }

func wantNext(t *testing.T, c *Core, what string, thread int, x api.Thr, want api.Deed) {
	t.Helper()
	if got := c.Next(thread, x); got != want {
		t.Errorf("Next of %s, of %d in %+v, is %+v, not %+v", what, thread, x, got, want)
	}
}

func wantLocal(t *testing.T, c *Core, what string, thread int, x, want api.Thr) {
	t.Helper()
	if got := c.Local(thread, x); got != want {
		t.Errorf("Local of %s, of %d in %+v, is\n%+v, not\n%+v", what, thread, x, got, want)
	}
}

func wantLoaded(t *testing.T, c *Core, what string, thread int, x api.Thr, v int64, want api.Thr) {
	t.Helper()
	if got := c.Loaded(thread, x, v); got != want {
		t.Errorf("Loaded of %s, of %d in %+v with %d, is\n%+v, not\n%+v", what, thread, x, v, got, want)
	}
}

// swapped is what Swap tells.
type swapped struct {
	x    api.Thr
	n    int64
	some bool
}

func wantSwap(t *testing.T, c *Core, what string, thread int, x api.Thr, v int64, want swapped) {
	t.Helper()
	got := swapped{}
	got.x, got.n, got.some = c.Swap(thread, x, v)
	if got != want {
		t.Errorf("Swap of %s, of %d in %+v with %d, is\n%+v, not\n%+v", what, thread, x, v, got, want)
	}
}

// wantIdle wants that thread has nothing to do in x, and that x stays, whatever is asked for.
func wantIdle(t *testing.T, c *Core, what string, thread int, x api.Thr) {
	t.Helper()
	wantNext(t, c, what, thread, x, api.Deed{})
	wantLocal(t, c, what, thread, x, x)
	for _, v := range []int64{0, 9, x.Regs[0]} {
		wantLoaded(t, c, what, thread, x, v, x)
		wantSwap(t, c, what, thread, x, v, swapped{x: x})
	}
}

// kinds are instructions whose deeds, in Phase 0 and in 1, are each of the kinds; a Phase of 1 that there is not is DNone.
var kinds = []struct {
	text   string
	first  int
	second int
}{
	{"nop", api.DLocal, api.DNone},
	{"hlt", api.DLocal, api.DNone},
	{"jmp last", api.DLocal, api.DNone},
	{"jl last", api.DLocal, api.DNone},
	{"je last", api.DLocal, api.DNone},
	{"mov rax, rbx", api.DLocal, api.DNone},
	{"mov rax, 5", api.DLocal, api.DNone},
	{"add rax, rbx", api.DLocal, api.DNone},
	{"cmp rax, 5", api.DLocal, api.DNone},
	{"mfence", api.DFence, api.DNone},
	{"mov rax, x[0]", api.DLoad, api.DNone},
	{"mov rax, x[rcx]", api.DLoad, api.DNone},
	{"sub rax, x[0]", api.DLoad, api.DNone},
	{"cmp rax, x[0]", api.DLoad, api.DNone},
	{"cmp x[rcx], rax", api.DLoad, api.DNone},
	{"cmp x[0], 5", api.DLoad, api.DNone},
	{"mov x[0], rax", api.DStore, api.DNone},
	{"mov x[rcx], 5", api.DStore, api.DNone},
	{"xor x[0], rax", api.DLoad, api.DStore},
	{"and x[rcx], 5", api.DLoad, api.DStore},
	{"or x[rbx], 5", api.DTrap, api.DTrap},
	{"lock xor x[0], rax", api.DLocked, api.DNone},
	{"lock add x[rcx], 5", api.DLocked, api.DNone},
	{"xchg x[0], rax", api.DLocked, api.DNone},
	{"lock cmpxchg x[rcx], rbx", api.DLocked, api.DNone},
	{"mov rax, x[rbx]", api.DTrap, api.DNone},
	{"cmp x[rbx], 5", api.DTrap, api.DNone},
	{"mov x[rbx], 5", api.DTrap, api.DNone},
	{"lock add x[rbx], 5", api.DTrap, api.DNone},
	{"xchg x[rbx], rax", api.DTrap, api.DNone},
	{"lock cmpxchg x[rbx], rax", api.DTrap, api.DNone},
}

func TestP1402Kinds(t *testing.T) {
	for _, k := range kinds {
		c := one(t, k.text)
		if got := c.Next(1, at()).Kind; got != k.first {
			t.Errorf("the kind of %q is %d, not %d", k.text, got, k.first)
		}
		if got := c.Next(1, half(5)).Kind; got != k.second {
			t.Errorf("the kind of %q in Phase 1 is %d, not %d", k.text, got, k.second)
		}
	}
}

func TestP1402Nothing(t *testing.T) {
	for _, k := range kinds {
		c := one(t, k.text)
		for _, thread := range []int{math.MinInt, -1 << 32, -2, -1, 3, 4, 64, 1<<32 + 1, math.MaxInt} {
			wantIdle(t, c, k.text, thread, at())
			wantIdle(t, c, k.text, thread, half(5))
		}
		for _, n := range []int{math.MinInt, -1, api.Halted, api.Trapped, 3, 1 << 32, math.MaxInt} {
			wantIdle(t, c, k.text, 1, at(status(n)))
			wantIdle(t, c, k.text, 1, half(5, status(n)))
		}
		for _, n := range []int{math.MinInt, -1 << 32, -2, -1, 4, 5, 1 << 32, 1<<32 + 1, math.MaxInt} {
			wantIdle(t, c, k.text, 1, at(pc(n)))
			wantIdle(t, c, k.text, 1, half(5, pc(n)))
		}
		for _, n := range []int{math.MinInt, -2, -1, 2, 3, 1 << 32, 1<<32 + 1, math.MaxInt} {
			wantIdle(t, c, k.text, 1, at(phase(n)))
		}
		if k.second == api.DNone {
			wantIdle(t, c, k.text, 1, half(5))
		}
	}
}

// TestP1402Lengths asks at the ends of threads that are shorter and longer than the one beside them.
func TestP1402Lengths(t *testing.T) {
	c := Make(read(t, "thread\nhlt\nthread\nnop\nnop\nhlt"))
	for _, w := range []struct {
		thread, pc, kind int
	}{
		{0, -1, api.DNone}, {0, 0, api.DLocal}, {0, 1, api.DNone}, {0, 2, api.DNone},
		{1, -1, api.DNone}, {1, 0, api.DLocal}, {1, 2, api.DLocal}, {1, 3, api.DNone},
	} {
		wantNext(t, c, "its end", w.thread, api.Thr{PC: w.pc}, deed(w.kind, 0, 0))
	}
	none := Make(api.Prog{})
	for _, thread := range []int{-1, 0, 1} {
		wantIdle(t, none, "no thread", thread, api.Thr{})
	}
}

func TestP1402Plain(t *testing.T) {
	for _, k := range kinds {
		if k.first != api.DLocal && k.first != api.DFence {
			continue
		}
		wantNext(t, one(t, k.text), k.text, 1, at(), deed(k.first, 0, 0))
		wantNext(t, one(t, k.text), k.text, 1, api.Thr{PC: 1}, deed(k.first, 0, 0))
	}
}

func TestP1402Memory(t *testing.T) {
	for _, w := range []struct {
		text string
		x    api.Thr
		want api.Deed
	}{
		{"mov x[0], 5", at(), deed(api.DStore, 0, 5)},
		{"mov rax, x[rbx]", at(reg(1, 9)), deed(api.DTrap, 0, 0)},
		{"mov x[1], 0", at(), deed(api.DStore, 1, 0)},
		{"mov y[2], -9223372036854775808", at(), deed(api.DStore, 4, least)},
		{"mov z[0], 9223372036854775807", at(), deed(api.DStore, 5, greatest)},
		{"mov y[0], rbx", at(), deed(api.DStore, 2, -20)},
		{"mov y[rdx], rdi", at(), deed(api.DStore, 4, least)},
		{"mov x[rcx], rcx", at(), deed(api.DStore, 1, 1)},
		{"mov z[rsi], 5", at(), deed(api.DStore, 5, 5)},
		{"mov rax, x[0]", at(), deed(api.DLoad, 0, 0)},
		{"mov rdx, y[rdx]", at(), deed(api.DLoad, 4, 0)},
		{"add rbx, y[1]", at(), deed(api.DLoad, 3, 0)},
		{"cmp rax, z[0]", at(), deed(api.DLoad, 5, 0)},
		{"cmp x[rcx], 5", at(), deed(api.DLoad, 1, 0)},
		{"cmp x[1], rbx", at(), deed(api.DLoad, 1, 0)},
		{"add y[0], 5", at(), deed(api.DLoad, 2, 0)},
		{"or y[rcx], rbx", at(), deed(api.DLoad, 3, 0)},
		{"lock add y[0], 5", at(), deed(api.DLocked, 2, 0)},
		{"lock sub y[rcx], rbx", at(), deed(api.DLocked, 3, 0)},
		{"xchg x[1], rbx", at(), deed(api.DLocked, 1, 0)},
		{"xchg y[rdx], rdx", at(), deed(api.DLocked, 4, 0)},
		{"lock cmpxchg z[0], rbx", at(), deed(api.DLocked, 5, 0)},
		{"lock cmpxchg y[rdx], rax", at(), deed(api.DLocked, 4, 0)},
	} {
		wantNext(t, one(t, w.text), w.text, 1, w.x, w.want)
	}
}

func TestP1402Second(t *testing.T) {
	for _, w := range []struct {
		text string
		x    api.Thr
		want api.Deed
	}{
		{"add y[0], 5", half(3), deed(api.DStore, 2, 8)},
		{"add y[0], 1", half(greatest), deed(api.DStore, 2, least)},
		{"add y[0], rbx", half(-1), deed(api.DStore, 2, -21)},
		{"sub y[rcx], 5", half(3), deed(api.DStore, 3, -2)},
		{"sub x[1], rax", half(least), deed(api.DStore, 1, greatest-9)},
		{"and x[0], rax", half(6), deed(api.DStore, 0, 2)},
		{"or y[rdx], 5", half(-8), deed(api.DStore, 4, -3)},
		{"xor z[0], rdi", half(least), deed(api.DStore, 5, 0)},
		{"xor z[rsi], -1", half(0), deed(api.DStore, 5, -1)},
		{"sub y[rcx], rcx", half(0), deed(api.DStore, 3, -1)},
	} {
		wantNext(t, one(t, w.text), w.text, 1, w.x, w.want)
	}
}

// led are the texts that a register leads, with what they do to a cell in Phase 0.
var led = []struct {
	text string
	kind int
}{
	{"mov rax, SYM[rbx]", api.DLoad}, {"cmp rax, SYM[rbx]", api.DLoad}, {"add rax, SYM[rbx]", api.DLoad},
	{"cmp SYM[rbx], 5", api.DLoad}, {"add SYM[rbx], 5", api.DLoad}, {"xor SYM[rbx], rax", api.DLoad},
	{"mov SYM[rbx], 5", api.DStore}, {"xchg SYM[rbx], rax", api.DLocked}, {"lock sub SYM[rbx], 5", api.DLocked},
	{"lock cmpxchg SYM[rbx], rax", api.DLocked},
}

func spliced(text, sym string) string {
	i := slices.Index([]byte(text), 'S')
	return text[:i] + sym + text[i+3:]
}

// TestP1402Cells leads a register to each cell of each symbol, and past their ends, in each phase.
func TestP1402Cells(t *testing.T) {
	base := 0
	for _, s := range []struct {
		name string
		size int
	}{{"x", 2}, {"y", 3}, {"z", 1}} {
		for _, l := range led {
			text := spliced(l.text, s.name)
			c := one(t, text)
			two := l.kind == api.DLoad && c.Next(1, half(4, reg(1, 0))) != api.Deed{}
			for n := range s.size {
				got := c.Next(1, at(reg(1, int64(n))))
				if got.Kind != l.kind || got.Addr != base+n {
					t.Errorf("Next of %q, cell %d, is %+v", text, n, got)
				}
				if got := c.Next(1, half(4, reg(1, int64(n)))); two && (got.Kind != api.DStore || got.Addr != base+n) {
					t.Errorf("Next of %q, cell %d, in Phase 1 is %+v", text, n, got)
				}
			}
			for _, n := range []int64{least, -1 << 32, -2, -1, int64(s.size), int64(s.size) + 1, 64, 1 << 32, greatest} {
				wantTrap(t, c, text, at(reg(1, n)))
				if two {
					wantTrap(t, c, text, half(4, reg(1, n)))
				}
			}
		}
		base += s.size
	}
}

// wantTrap wants that the thread traps in x, and that all but Status stays.
func wantTrap(t *testing.T, c *Core, what string, x api.Thr) {
	t.Helper()
	wantNext(t, c, what, 1, x, deed(api.DTrap, 0, 0))
	wantLocal(t, c, what, 1, x, with(x, status(api.Trapped)))
	wantLoaded(t, c, what, 1, x, 9, x)
	wantSwap(t, c, what, 1, x, 9, swapped{x: x})
	wantIdle(t, c, what, 1, c.Local(1, x))
}

func TestP1403Trap(t *testing.T) {
	for _, l := range led {
		text := spliced(l.text, "x")
		wantTrap(t, one(t, text), text, at())
		wantTrap(t, one(t, text), text, at(reg(1, 2)))
	}
	for _, text := range []string{"add x[rbx], 5", "sub x[rbx], rbx", "and x[rbx], 5", "or x[rbx], rax", "xor x[rbx], 5"} {
		wantTrap(t, one(t, text), text, half(-9))
		wantTrap(t, one(t, text), text, half(0, reg(1, 2), flags("Z")))
	}
}

func TestP1403Registers(t *testing.T) {
	for _, w := range []struct {
		text    string
		x, want api.Thr
	}{
		{"mov rbx, 5", at(), at(pc(2), reg(1, 5))},
		{"mov rbx, 0", at(), at(pc(2), reg(1, 0))},
		{"mov r9, -9223372036854775808", at(), at(pc(2), reg(7, least))},
		{"mov rax, 9223372036854775807", at(), at(pc(2), reg(0, greatest))},
		{"mov rax, rbx", at(), at(pc(2), reg(0, -20))},
		{"mov r9, rax", at(), at(pc(2), reg(7, 10))},
		{"mov rcx, rcx", at(), at(pc(2))},
		{"add rax, 5", at(), at(pc(2), reg(0, 15), flags(""))},
		{"add rax, rbx", at(), at(pc(2), reg(0, -10), flags("S"))},
		{"add rbx, rbx", at(), at(pc(2), reg(1, -40), flags("SC"))},
		{"add r8, 1", at(), at(pc(2), reg(6, least), flags("SO"))},
		{"add rdi, rdi", at(), at(pc(2), reg(5, 0), flags("ZCO"))},
		{"sub rax, 11", at(), at(pc(2), reg(0, -1), flags("SC"))},
		{"sub rax, rbx", at(), at(pc(2), reg(0, 30), flags("C"))},
		{"sub rdi, 1", at(), at(pc(2), reg(5, greatest), flags("O"))},
		{"sub r9, r9", at(), at(pc(2), reg(7, 0), flags("Z"))},
		{"and rax, 6", at(), at(pc(2), reg(0, 2), flags(""))},
		{"and rbx, rdi", at(), at(pc(2), reg(1, least), flags("S"))},
		{"and rcx, rdx", at(), at(pc(2), reg(2, 0), flags("Z"))},
		{"or rcx, rdx", at(), at(pc(2), reg(2, 3), flags(""))},
		{"or rsi, rdi", at(), at(pc(2), reg(4, least), flags("S"))},
		{"or rsi, 0", at(), at(pc(2), flags("Z"))},
		{"xor rax, -1", at(), at(pc(2), reg(0, -11), flags("S"))},
		{"xor r8, rdi", at(), at(pc(2), reg(6, -1), flags("S"))},
		{"xor r9, r9", at(), at(pc(2), reg(7, 0), flags("Z"))},
		{"cmp rax, 10", at(), at(pc(2), flags("Z"))},
		{"cmp rbx, rax", at(), at(pc(2), flags("S"))},
		{"cmp rax, rbx", at(), at(pc(2), flags("C"))},
		{"cmp rdi, 1", at(), at(pc(2), flags("O"))},
		{"cmp r8, -1", at(), at(pc(2), flags("SCO"))},
		{"cmp rcx, rdx", at(), at(pc(2), flags("SC"))},
		{"nop", at(), at(pc(2))},
		{"mfence", at(), at(pc(2))},
		{"hlt", at(), at(status(api.Halted))},
		{"hlt", at(flags("Z"), latch(0)), at(flags("Z"), latch(0), status(api.Halted))},
	} {
		wantLocal(t, one(t, w.text), w.text, 1, w.x, w.want)
	}
}

func TestP1403Jmp(t *testing.T) {
	for to, want := range map[string]int{"first": 0, "self": 1, "mid": 2, "last": 3} {
		c := one(t, "self: jmp "+to)
		for _, f := range []string{"", "Z", "ZSCO"} {
			wantLocal(t, c, "jmp "+to, 1, at(flags(f)), at(flags(f), pc(want)))
		}
	}
	// Each thread has labels of its own, and its last instruction may jump.
	wantLocal(t, one(t, "nop"), "the last one", 1, at(pc(3)), at(pc(0)))
	c := Make(read(t, "thread\na: jmp a\nthread\nnop\na: jmp a\nthread\nnop\nnop\nb: a: jmp a\nthread\nnop\njmp a\nnop\na: jmp a"))
	for thread, want := range []int{0, 1, 2, 3} {
		wantLocal(t, c, "jmp a", thread, api.Thr{PC: want}, api.Thr{PC: want})
	}
	wantLocal(t, c, "jmp a", 3, api.Thr{PC: 1}, api.Thr{PC: 3})
}

// allFlags are the letters of each row of flags that there may be.
var allFlags = []string{"", "Z", "S", "ZS", "C", "ZC", "SC", "ZSC", "O", "ZO", "SO", "ZSO", "CO", "ZCO", "SCO", "ZSCO"}

// TestP1403Jcc holds each condition against the flags with which it is so: all others lead on.
func TestP1403Jcc(t *testing.T) {
	for jump, taken := range map[string][]string{
		"je":  {"Z", "ZS", "ZC", "ZSC", "ZO", "ZSO", "ZCO", "ZSCO"},
		"jne": {"", "S", "C", "SC", "O", "SO", "CO", "SCO"},
		"jl":  {"S", "ZS", "SC", "ZSC", "O", "ZO", "CO", "ZCO"},
		"jge": {"", "Z", "C", "ZC", "SO", "ZSO", "SCO", "ZSCO"},
		"jle": {"S", "ZS", "SC", "ZSC", "O", "ZO", "CO", "ZCO", "Z", "ZC", "ZSO", "ZSCO"},
		"jg":  {"", "C", "SO", "SCO"},
		"jb":  {"C", "ZC", "SC", "ZSC", "CO", "ZCO", "SCO", "ZSCO"},
		"jae": {"", "Z", "S", "ZS", "O", "ZO", "SO", "ZSO"},
		"jbe": {"C", "ZC", "SC", "ZSC", "CO", "ZCO", "SCO", "ZSCO", "Z", "ZS", "ZO", "ZSO"},
		"ja":  {"", "S", "O", "SO"},
	} {
		for to, place := range map[string]int{"first": 0, "self": 1, "mid": 2, "last": 3} {
			c := one(t, "self: "+jump+" "+to)
			for _, f := range allFlags {
				want := at(flags(f), pc(2))
				if slices.Contains(taken, f) {
					want.PC = place
				}
				wantLocal(t, c, jump+" "+to+" with "+f, 1, at(flags(f)), want)
			}
		}
	}
}

func TestP1403Store(t *testing.T) {
	for _, text := range []string{"mov x[0], 5", "mov y[2], rbx", "mov y[rcx], -5", "mov y[rdx], rdx"} {
		c := one(t, text)
		wantLocal(t, c, text, 1, at(), at(pc(2)))
		wantLocal(t, c, text, 1, at(latch(0), flags("ZC")), at(pc(2), latch(0), flags("ZC")))
	}
	for _, w := range []struct {
		text    string
		x, want api.Thr
	}{
		{"add y[0], 5", half(3), at(pc(2), latch(0), flags(""))},
		{"add y[0], 1", half(greatest), at(pc(2), latch(0), flags("SO"))},
		{"add y[0], rdi", half(least), at(pc(2), latch(0), flags("ZCO"))},
		{"sub y[rcx], 5", half(3), at(pc(2), latch(0), flags("SC"))},
		{"sub y[0], rax", half(10), at(pc(2), latch(0), flags("Z"))},
		{"sub y[0], 1", half(least), at(pc(2), latch(0), flags("O"))},
		{"and x[0], rax", half(5), at(pc(2), latch(0), flags("Z"))},
		{"or y[rdx], 5", half(-8), at(pc(2), latch(0), flags("S"))},
		{"xor z[0], 1", half(0), at(pc(2), latch(0), flags(""))},
		{"xor z[rsi], rsi", half(0, flags("")), at(pc(2), latch(0), flags("Z"))},
	} {
		wantLocal(t, one(t, w.text), w.text, 1, w.x, w.want)
	}
}

// TestP1403Others asks for Local where the deed asks memory first.
func TestP1403Others(t *testing.T) {
	for _, k := range kinds {
		if k.first == api.DLoad || k.first == api.DLocked {
			wantLocal(t, one(t, k.text), k.text, 1, at(), at())
		}
	}
}

func TestP1404Loaded(t *testing.T) {
	for _, w := range []struct {
		text string
		v    int64
		want api.Thr
	}{
		{"mov rbx, x[0]", 5, at(pc(2), reg(1, 5))},
		{"mov rax, x[0]", 0, at(pc(2), reg(0, 0))},
		{"mov r9, y[rdx]", least, at(pc(2), reg(7, least))},
		{"mov rdx, y[rdx]", greatest, at(pc(2), reg(3, greatest))},
		{"add rax, x[0]", 5, at(pc(2), reg(0, 15), flags(""))},
		{"add rax, x[0]", -10, at(pc(2), reg(0, 0), flags("ZC"))},
		{"add r8, y[rcx]", 1, at(pc(2), reg(6, least), flags("SO"))},
		{"add rcx, y[rcx]", greatest, at(pc(2), reg(2, least), flags("SO"))},
		{"sub rbx, x[1]", 5, at(pc(2), reg(1, -25), flags("S"))},
		{"sub rax, x[1]", 11, at(pc(2), reg(0, -1), flags("SC"))},
		{"sub rsi, z[rsi]", least, at(pc(2), reg(4, least), flags("SCO"))},
		{"and rax, x[0]", 6, at(pc(2), reg(0, 2), flags(""))},
		{"or rbx, x[0]", 1, at(pc(2), reg(1, -19), flags("S"))},
		{"xor rax, x[0]", 10, at(pc(2), reg(0, 0), flags("Z"))},
		{"cmp rax, x[0]", 11, at(pc(2), flags("SC"))},
		{"cmp rax, x[0]", 10, at(pc(2), flags("Z"))},
		{"cmp rdi, y[rcx]", 1, at(pc(2), flags("O"))},
		{"cmp x[0], rax", 11, at(pc(2), flags(""))},
		{"cmp x[0], rax", 9, at(pc(2), flags("SC"))},
		{"cmp x[0], 10", 10, at(pc(2), flags("Z"))},
		{"cmp y[rdx], 1", least, at(pc(2), flags("O"))},
		{"cmp y[rdx], rdx", 1, at(pc(2), flags("SC"))},
		{"cmp y[rdx], rdx", 3, at(pc(2), flags(""))},
		{"add x[0], 5", 3, half(3)},
		{"add x[0], rax", 0, half(0)},
		{"sub y[rdx], 5", least, half(least)},
		{"and x[1], rbx", greatest, half(greatest)},
		{"or y[rcx], -1", -1, half(-1)},
		{"xor z[rsi], rsi", 77, half(77)},
	} {
		wantLoaded(t, one(t, w.text), w.text, 1, at(), w.v, w.want)
	}
}

func TestP1404Others(t *testing.T) {
	for _, k := range kinds {
		c := one(t, k.text)
		for _, v := range []int64{0, 10, least} {
			if k.first != api.DLoad {
				wantLoaded(t, c, k.text, 1, at(), v, at())
			}
			wantLoaded(t, c, k.text, 1, half(5), v, half(5))
		}
	}
}

func TestP1405Swap(t *testing.T) {
	for _, w := range []struct {
		text string
		v    int64
		want swapped
	}{
		{"xchg x[0], rbx", 9, swapped{at(pc(2), reg(1, 9)), -20, true}},
		{"xchg x[0], rax", 10, swapped{at(pc(2)), 10, true}},
		{"xchg y[rdx], rdx", least, swapped{at(pc(2), reg(3, least)), 2, true}},
		{"xchg y[rcx], r9", 0, swapped{at(pc(2), reg(7, 0)), 3, true}},
		{"lock add x[0], 5", 3, swapped{at(pc(2), flags("")), 8, true}},
		{"lock add x[0], rdi", least, swapped{at(pc(2), flags("ZCO")), 0, true}},
		{"lock add y[rcx], 1", greatest, swapped{at(pc(2), flags("SO")), least, true}},
		{"lock sub x[0], rax", 3, swapped{at(pc(2), flags("SC")), -7, true}},
		{"lock sub x[0], 5", 5, swapped{at(pc(2), flags("Z")), 0, true}},
		{"lock sub y[rdx], 1", least, swapped{at(pc(2), flags("O")), greatest, true}},
		{"lock and x[1], 6", 10, swapped{at(pc(2), flags("")), 2, true}},
		{"lock or x[1], rbx", 1, swapped{at(pc(2), flags("S")), -19, true}},
		{"lock xor z[rsi], rsi", 0, swapped{at(pc(2), flags("Z")), 0, true}},
		{"lock cmpxchg x[0], rbx", 10, swapped{at(pc(2), flags("Z")), -20, true}},
		{"lock cmpxchg x[0], rbx", 11, swapped{at(pc(2), flags("SC"), reg(0, 11)), 0, false}},
		{"lock cmpxchg x[0], rbx", 9, swapped{at(pc(2), flags(""), reg(0, 9)), 0, false}},
		{"lock cmpxchg y[rdx], r8", least, swapped{at(pc(2), flags("SCO"), reg(0, least)), 0, false}},
		{"lock cmpxchg x[0], rax", 10, swapped{at(pc(2), flags("Z")), 10, true}},
		{"lock cmpxchg x[0], rax", 0, swapped{at(pc(2), flags(""), reg(0, 0)), 0, false}},
		{"lock cmpxchg x[0], rsi", 10, swapped{at(pc(2), flags("Z")), 0, true}},
	} {
		wantSwap(t, one(t, w.text), w.text, 1, at(), w.v, w.want)
	}
	c := one(t, "lock cmpxchg y[rax], rax")
	wantSwap(t, c, "by its own register", 1, at(reg(0, 2)), 2, swapped{at(pc(2), flags("Z"), reg(0, 2)), 2, true})
	wantSwap(t, c, "by its own register", 1, at(reg(0, 2)), 5, swapped{at(pc(2), flags("SC"), reg(0, 5)), 0, false})
	wantSwap(t, c, "by its own register", 1, at(reg(0, 0)), least, swapped{at(pc(2), flags("SCO"), reg(0, least)), 0, false})
}

func TestP1405Others(t *testing.T) {
	for _, k := range kinds {
		c := one(t, k.text)
		for _, v := range []int64{0, 10, least} {
			if k.first != api.DLocked {
				wantSwap(t, c, k.text, 1, at(), v, swapped{x: at()})
			}
			wantSwap(t, c, k.text, 1, half(5), v, swapped{x: half(5)})
		}
	}
}

// walk lets thread go on alone from Start, each access done at once; it tells where it stands then, all cells, and the kinds of its deeds.
func walk(t *testing.T, c *Core, thread int) (api.Thr, []int64, []int) {
	t.Helper()
	s := c.Start()
	x := s.Thr[thread]
	var done []int
	for range 1000 {
		d := c.Next(thread, x)
		switch d.Kind {
		case api.DNone:
			return x, s.Mem, done
		case api.DLoad:
			x = c.Loaded(thread, x, s.Mem[d.Addr])
		case api.DLocked:
			y, n, some := c.Swap(thread, x, s.Mem[d.Addr])
			if x = y; some {
				s.Mem[d.Addr] = n
			}
		case api.DStore:
			s.Mem[d.Addr] = d.Val
			x = c.Local(thread, x)
		default:
			x = c.Local(thread, x)
		}
		done = append(done, d.Kind)
	}
	t.Error("the thread goes on and on")
	return x, s.Mem, done
}

func TestP1403Walk(t *testing.T) {
	for _, w := range []struct {
		text string
		x    api.Thr
		mem  []int64
		done []int
	}{
		{"sym x 1 5\nthread\nhlt", api.Thr{Status: api.Halted}, []int64{5}, []int{api.DLocal}},
		{
			"sym x 2 5\nthread\nadd x[1], 3\nmov rax, x[1]\nmfence\nxchg x[0], rax\nhlt",
			api.Thr{Regs: [8]int64{5}, PC: 4, Status: api.Halted}, []int64{3, 3},
			[]int{api.DLoad, api.DStore, api.DLoad, api.DFence, api.DLocked, api.DLocal},
		},
		{
			"sym y 1\nsym x 3 4 5 6\nthread\nmov rbx, 2\nloop: mov rcx, x[rbx]\nlock add y[0], rcx\nsub rbx, 1\njge loop\nhlt",
			api.Thr{Regs: [8]int64{0, -1, 4}, PC: 5, Status: api.Halted, Flags: flagsOf("SC")}, []int64{15, 4, 5, 6},
			slices.Concat([]int{api.DLocal}, slices.Repeat([]int{api.DLoad, api.DLocked, api.DLocal, api.DLocal}, 3), []int{api.DLocal}),
		},
		{
			"sym x 2 7\nthread\nmov rbx, 1\nlock cmpxchg x[0], rbx\njne on\nhlt\non: lock cmpxchg x[0], rbx\nxor x[rax], rbx\njmp end\nend: hlt",
			api.Thr{Regs: [8]int64{7, 1}, Flags: flagsOf("Z"), PC: 5, Status: api.Trapped}, []int64{1, 0},
			[]int{api.DLocal, api.DLocked, api.DLocal, api.DLocked, api.DTrap},
		},
		{
			"sym x 1 3\nthread\njmp to\nback: cmp x[0], 3\nje end\nnop\nto: jmp back\nend: hlt",
			api.Thr{Flags: flagsOf("Z"), PC: 5, Status: api.Halted}, []int64{3},
			[]int{api.DLocal, api.DLocal, api.DLoad, api.DLocal, api.DLocal},
		},
	} {
		x, mem, done := walk(t, Make(read(t, w.text)), 0)
		if x != w.x || !slices.Equal(mem, w.mem) || !slices.Equal(done, w.done) {
			t.Errorf("%q comes to\n%+v %v by %v, not\n%+v %v by %v", w.text, x, mem, done, w.x, w.mem, w.done)
		}
	}
}

// refused are programs that may not be: one of each code, and of each part of a program.
func refused(t *testing.T) map[string]api.Prog {
	turned := func(turn func(p *api.Prog)) api.Prog {
		p := read(t, "sym x 2 7\nsym y 1\nthread\na: mov x[1], 1\njmp a\nthread\nhlt")
		turn(&p)
		return p
	}
	first := func(i api.Ins) api.Prog {
		return turned(func(p *api.Prog) { p.Threads[0].Ins[0] = i })
	}
	at := func(sym int, n int64) api.Opd { return api.Opd{Kind: api.KAt, Sym: sym, N: n} }
	hlt := api.Ins{Op: api.Hlt}
	return map[string]api.Prog{
		"a symbol too many":         turned(func(p *api.Prog) { p.Syms = slices.Repeat([]api.Sym{{Name: "x", Size: 1}}, api.MaxSyms+1) }),
		"a thread too many":         turned(func(p *api.Prog) { p.Threads = slices.Repeat([]api.Thread{{Ins: []api.Ins{hlt}}}, api.MaxThreads+1) }),
		"a wrong name":              turned(func(p *api.Prog) { p.Syms[1].Name = "mov" }),
		"a name twice":              turned(func(p *api.Prog) { p.Syms[1].Name = "x" }),
		"a size of 0":               turned(func(p *api.Prog) { p.Syms[1].Size = 0 }),
		"too many numbers":          turned(func(p *api.Prog) { p.Syms[1].Init = []int64{5, 6} }),
		"a thread of nothing":       turned(func(p *api.Prog) { p.Threads[1].Ins = nil }),
		"a thread that doesn't end": turned(func(p *api.Prog) { p.Threads[1].Ins = []api.Ins{{Op: api.Nop}} }),
		"too long a thread":         turned(func(p *api.Prog) { p.Threads[1].Ins = slices.Repeat([]api.Ins{hlt}, api.MaxIns+1) }),
		"a wrong instruction":       first(api.Ins{Op: api.Mov, A: at(0, 0), B: at(0, 1)}),
		"a zero instruction":        first(api.Ins{Labels: []string{"a"}}),
		"a wrong label":             first(api.Ins{Op: api.Nop, Labels: []string{"a", "1x"}}),
		"a label twice":             first(api.Ins{Op: api.Nop, Labels: []string{"a", "a"}}),
		"a jump to no label":        first(api.Ins{Op: api.Nop}),
		"a symbol that is not":      first(api.Ins{Op: api.Xchg, A: at(2, 0), B: api.Opd{Kind: api.KReg}, Labels: []string{"a"}}),
		"a cell that is not":        first(api.Ins{Op: api.Xchg, A: at(0, 2), B: api.Opd{Kind: api.KReg}, Labels: []string{"a"}}),
	}
}

func TestP1401Make(t *testing.T) {
	for what, p := range refused(t) {
		if Make(p) != nil {
			t.Errorf("there is a core of a program with %s", what)
		}
	}
	for _, s := range []string{"", "sym x 1", "thread\nhlt", head + "hlt"} {
		p := read(t, s)
		c := Make(p)
		if c == nil {
			t.Fatalf("there is no core of %q", s)
		}
		if !valid.Same(c.Prog(), p) {
			t.Errorf("Prog of %q is %+v", s, c.Prog())
		}
	}
}

func wantStart(t *testing.T, c *Core, mem []int64, threads int) {
	t.Helper()
	s := c.Start()
	if !slices.Equal(s.Mem, mem) || !slices.Equal(s.Thr, make([]api.Thr, threads)) || len(s.Bufs) != 0 || s.Lock != 0 {
		t.Errorf("Start is %+v, not %v and %d threads", s, mem, threads)
	}
}

func TestP1401Start(t *testing.T) {
	for _, w := range []struct {
		text    string
		mem     []int64
		threads int
	}{
		{"", nil, 0},
		{"sym x 2 7", []int64{7, 0}, 0},
		{"thread\nhlt", nil, 1},
		{"sym x 2 7\nsym y 1\nsym z 3 1 -2 3\nthread\nhlt\nthread\nnop\nhlt\nthread\nmov x[1], 5\nhlt", []int64{7, 0, 0, 1, -2, 3}, 3},
		{head + "hlt", []int64{7, 0, 0, 0, 0, -5}, 2},
	} {
		wantStart(t, Make(read(t, w.text)), w.mem, w.threads)
	}
	var many api.Prog
	for range api.MaxThreads {
		many.Threads = append(many.Threads, api.Thread{Ins: []api.Ins{{Op: api.Hlt}}})
	}
	wantStart(t, Make(many), nil, api.MaxThreads)
}

const apart = "sym x 2 7\nsym y 2 3 4\nthread\na: b: mov x[1], 5\njmp b\nthread\nmov rax, y[rbx]\nc: hlt"

// wantApart wants all that the core of the text apart tells.
func wantApart(t *testing.T, what string, c *Core) {
	t.Helper()
	if got := c.Prog(); !valid.Same(got, read(t, apart)) {
		t.Errorf("when %s was written over, Prog is %+v", what, got)
	}
	wantStart(t, c, []int64{7, 0, 3, 4}, 2)
	wantNext(t, c, what, 0, api.Thr{}, deed(api.DStore, 1, 5))
	wantLocal(t, c, what, 0, api.Thr{PC: 1}, api.Thr{})
	wantNext(t, c, what, 1, api.Thr{Regs: [8]int64{0, 1}}, deed(api.DLoad, 3, 0))
	wantLocal(t, c, what, 1, api.Thr{PC: 1}, api.Thr{PC: 1, Status: api.Halted})
}

// scrawl writes over all that p leads to.
func scrawl(p api.Prog) {
	for i, s := range p.Syms {
		for j := range s.Init {
			s.Init[j] = -99
		}
		p.Syms[i] = api.Sym{Name: "scrawled", Size: 64}
	}
	for i, th := range p.Threads {
		for j, in := range th.Ins {
			for k := range in.Labels {
				in.Labels[k] = "scrawled"
			}
			th.Ins[j] = api.Ins{Op: api.Mfence}
		}
		p.Threads[i] = api.Thread{}
	}
}

func TestP1401Apart(t *testing.T) {
	p := read(t, apart)
	c := Make(p)
	wantApart(t, "nothing", c)
	if !valid.Same(p, read(t, apart)) {
		t.Errorf("what Make was given is %+v now", p)
	}
	scrawl(p)
	wantApart(t, "what Make was given", c)
	kept := c.Prog()
	scrawl(c.Prog())
	wantApart(t, "what Prog told", c)
	if !valid.Same(kept, read(t, apart)) {
		t.Errorf("what Prog told first is %+v now", kept)
	}
	first, s := c.Start(), c.Start()
	for i := range s.Mem {
		s.Mem[i] = -99
	}
	for i := range s.Thr {
		s.Thr[i] = api.Thr{PC: 9, Status: api.Trapped}
	}
	wantApart(t, "what Start told", c)
	if !slices.Equal(first.Mem, []int64{7, 0, 3, 4}) || !slices.Equal(first.Thr, make([]api.Thr, 2)) {
		t.Errorf("what Start told first is %+v now", first)
	}
	// What runs past the end of one list may not be another one's.
	q := c.Prog()
	for i := range q.Syms {
		_ = append(q.Syms[i].Init, -99, -99, -99)
	}
	for i := range q.Threads {
		for j := range q.Threads[i].Ins {
			_ = append(q.Threads[i].Ins[j].Labels, "scrawled", "scrawled", "scrawled")
		}
		_ = append(q.Threads[i].Ins, api.Ins{Op: api.Mfence}, api.Ins{Op: api.Mfence})
	}
	if !valid.Same(q, read(t, apart)) {
		t.Errorf("with lists made longer Prog is %+v", q)
	}
}

// TestP1401Cores asks two cores by turns.
func TestP1401Cores(t *testing.T) {
	a, b := one(t, "mov x[0], 5"), one(t, "mov y[0], 6")
	for range 3 {
		wantNext(t, a, "the first one", 1, at(), deed(api.DStore, 0, 5))
		wantNext(t, b, "the second one", 1, at(), deed(api.DStore, 2, 6))
	}
}

func TestP1401Nil(t *testing.T) {
	var c *Core
	if p := c.Prog(); len(p.Syms) != 0 || len(p.Threads) != 0 {
		t.Errorf("Prog of none is %+v", p)
	}
	if s := c.Start(); len(s.Mem) != 0 || len(s.Thr) != 0 || len(s.Bufs) != 0 || s.Lock != 0 {
		t.Errorf("Start of none is %+v", s)
	}
	for _, thread := range []int{math.MinInt, -1, 0, 1, math.MaxInt} {
		for _, x := range []api.Thr{{}, at(), half(5), at(status(api.Halted)), at(pc(-1))} {
			wantNext(t, c, "none", thread, x, api.Deed{})
			wantLocal(t, c, "none", thread, x, api.Thr{})
			wantLoaded(t, c, "none", thread, x, 9, api.Thr{})
			wantSwap(t, c, "none", thread, x, 9, swapped{})
		}
	}
}
