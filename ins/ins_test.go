package ins

import (
	"math"
	"slices"
	"strings"
	"testing"

	"paling/api"
)

var (
	none = api.Opd{}
	rax  = api.Opd{Kind: api.KReg}
	r9   = api.Opd{Kind: api.KReg, Reg: 7}
	nine = api.Opd{Kind: api.KNum, N: 9}
	zero = api.Opd{Kind: api.KNum}
	x0   = api.Opd{Kind: api.KAt}
	y5   = api.Opd{Kind: api.KAt, Sym: 1, N: 5}
	xRax = api.Opd{Kind: api.KBy}
	zR9  = api.Opd{Kind: api.KBy, Sym: 2, Reg: 7}
)

var (
	registers = []api.Opd{rax, r9, {Kind: api.KReg, Reg: 3}}
	plains    = []api.Opd{rax, r9, {Kind: api.KReg, Reg: 3}, zero, nine, {Kind: api.KNum, N: math.MinInt64}, {Kind: api.KNum, N: math.MaxInt64}}
	memories  = []api.Opd{x0, y5, xRax, zR9, {Kind: api.KAt, Sym: math.MaxInt, N: math.MaxInt64}, {Kind: api.KBy, Sym: math.MaxInt, Reg: 1}}
)

// wrongs are operands that are neither zero nor right.
var wrongs = []api.Opd{
	{Reg: 1}, {Sym: 1}, {N: 1}, {Kind: -1}, {Kind: 5}, {Kind: math.MaxInt},
	{Kind: api.KReg, Reg: -1}, {Kind: api.KReg, Reg: 8}, {Kind: api.KReg, Sym: 1}, {Kind: api.KReg, N: 1},
	{Kind: api.KNum, Reg: 1}, {Kind: api.KNum, Sym: 1, N: 9},
	{Kind: api.KAt, Sym: -1}, {Kind: api.KAt, N: -1}, {Kind: api.KAt, Reg: 1},
	{Kind: api.KBy, Sym: -1}, {Kind: api.KBy, Reg: -1}, {Kind: api.KBy, Reg: 8}, {Kind: api.KBy, N: 1},
}

// operands are those of all kinds, right ones, wrong ones, and none.
func operands() []api.Opd { return slices.Concat([]api.Opd{none}, plains, memories, wrongs) }

var (
	someOps   = []int{math.MinInt, -1, 0, 1, 2, 3, 4, 5, 6, 7, 8, 9, 10, 11, 12, 13, 14, 15, 16, math.MaxInt}
	someConds = []int{math.MinInt, -1, 0, 1, 2, 3, 4, 5, 6, 7, 8, 9, 10, 11, math.MaxInt}
	allConds  = []int{api.E, api.Ne, api.L, api.Le, api.G, api.Ge, api.B, api.Be, api.A, api.Ae}
	toXor     = []int{api.Add, api.Sub, api.And, api.Or, api.Xor}
	allLabels = [][]string{nil, {}, {"a"}, {"a", "b", "c"}, {"a", "a"}, {""}, {"mov"}, {"1x", "\xff"}}
)

const longest = "abcdefghijklmnop"

// goodNames may be names, badNames may not.
var (
	goodNames = []string{"x", "_", "loop1", "\u00e9t\u00e9", longest, "\u00e9bcdefghijklmnop", "Mov", "jz"}
	badNames  = []string{"", "mov", "rax", "sym", "jae", "1x", "x ", "x[0]", "x\xff", longest + "q", "\u00e9bcdefghijklmnopq"}
)

// row is one of the document's table, spelled out; to says whether the row has a name there.
type row struct {
	ops   []int
	a, b  []api.Opd
	locks []bool
	conds []int
	to    bool
}

// rows are made once: each instruction is held against all of them.
var rows = table()

func table() []row {
	no, yes, either := []bool{false}, []bool{true}, []bool{true, false}
	zip, nothing := []int{0}, []api.Opd{none}
	any := slices.Concat(plains, memories)
	return []row{
		{[]int{api.Mov, api.Cmp}, registers, any, no, zip, false},
		{[]int{api.Mov, api.Cmp}, memories, plains, no, zip, false},
		{toXor, registers, any, no, zip, false},
		{toXor, memories, plains, either, zip, false},
		{[]int{api.Xchg}, memories, registers, no, zip, false},
		{[]int{api.Cmpxchg}, memories, registers, yes, zip, false},
		{[]int{api.Jmp}, nothing, nothing, no, zip, true},
		{[]int{api.Jcc}, nothing, nothing, no, allConds, true},
		{[]int{api.Mfence, api.Nop, api.Hlt}, nothing, nothing, no, zip, false},
	}
}

func (r row) fits(i api.Ins) bool {
	return slices.Contains(r.ops, i.Op) && slices.Contains(r.a, i.A) && slices.Contains(r.b, i.B) &&
		slices.Contains(r.locks, i.Lock) && slices.Contains(r.conds, i.Cond)
}

// spelledRight is P701, row by row, for the operands and texts above.
func spelledRight(i api.Ins) api.Code {
	for _, r := range rows {
		if r.fits(i) && r.to {
			if slices.Contains(goodNames, i.To) {
				return api.OK
			}
			return api.ErrName
		}
		if r.fits(i) && i.To == "" {
			return api.OK
		}
	}
	return api.ErrForm
}

// told is all that is asked of one instruction; an operand is none where there is a false.
type told struct {
	right         api.Code
	reads, writes api.Opd
	locked, fence bool
	parts         int
	next, jump    bool
}

// spelled is P702, sentence by sentence, for an instruction of that code.
func spelled(i api.Ins, code api.Code) told {
	if code != api.OK {
		return told{right: code}
	}
	is := func(ops ...int) bool { return slices.Contains(ops, i.Op) }
	var want told
	if is(api.Mov, api.Add, api.Sub, api.And, api.Or, api.Xor, api.Cmp) && slices.Contains(memories, i.B) {
		want.reads = i.B
	}
	if is(api.Add, api.Sub, api.And, api.Or, api.Xor, api.Cmp, api.Xchg, api.Cmpxchg) && slices.Contains(memories, i.A) {
		want.reads = i.A
	}
	if is(api.Mov, api.Add, api.Sub, api.And, api.Or, api.Xor, api.Xchg, api.Cmpxchg) && slices.Contains(memories, i.A) {
		want.writes = i.A
	}
	want.locked = is(api.Xchg) || i.Lock
	want.fence = is(api.Mfence) || want.locked
	want.parts = 1
	if want.reads != none && want.writes != none && !want.locked {
		want.parts = 2
	}
	want.next = !is(api.Jmp, api.Hlt)
	want.jump = is(api.Jmp, api.Jcc)
	return want
}

func ask(t *testing.T, i api.Ins) told {
	t.Helper()
	reads, r := Reads(i)
	writes, w := Writes(i)
	if r != (reads != none) || w != (writes != none) {
		t.Errorf("%+v: Reads tells %+v %v, Writes %+v %v", i, reads, r, writes, w)
	}
	next, jump := Leads(i)
	return told{Right(i), reads, writes, Locked(i), Fence(i), Parts(i), next, jump}
}

func wantTold(t *testing.T, i api.Ins, want told) {
	t.Helper()
	if got := ask(t, i); got != want {
		t.Errorf("%+v: %+v, not %+v", i, got, want)
	}
}

func wantRight(t *testing.T, i api.Ins, want api.Code) {
	t.Helper()
	if got := Right(i); got != want {
		t.Errorf("Right(%+v): %d, not %d", i, got, want)
	}
}

// wantWrong asks for the code want, and that nothing else is told.
func wantWrong(t *testing.T, want api.Code, all ...api.Ins) {
	t.Helper()
	for _, i := range all {
		wantTold(t, i, told{right: want})
	}
}

func TestP701EachRow(t *testing.T) {
	for _, r := range rows {
		to := ""
		if r.to {
			to = "x"
		}
		for _, op := range r.ops {
			for _, lock := range r.locks {
				for _, cond := range r.conds {
					for _, a := range r.a {
						for _, b := range r.b {
							wantRight(t, api.Ins{Op: op, Lock: lock, Cond: cond, A: a, B: b, To: to}, api.OK)
						}
					}
				}
			}
		}
	}
}

func TestP701NoSuchOp(t *testing.T) {
	for _, op := range []int{math.MinInt, -1, 0, 15, 16, math.MaxInt} {
		wantWrong(t, api.ErrForm,
			api.Ins{Op: op}, api.Ins{Op: op, To: "x"}, api.Ins{Op: op, To: "1x"}, api.Ins{Op: op, A: rax, B: nine},
			api.Ins{Op: op, A: x0, B: rax}, api.Ins{Op: op, Lock: true, A: x0, B: rax}, api.Ins{Op: op, Cond: api.E, To: "x"})
	}
	wantRight(t, api.Ins{Op: 1, A: rax, B: nine}, api.OK)
	wantRight(t, api.Ins{Op: 14}, api.OK)
}

func TestP701WrongOperands(t *testing.T) {
	for _, w := range append(wrongs, none) {
		for op := api.Mov; op <= api.Cmpxchg; op++ {
			lock := op == api.Cmpxchg
			wantWrong(t, api.ErrForm,
				api.Ins{Op: op, Lock: lock, A: w, B: rax}, api.Ins{Op: op, Lock: lock, A: rax, B: w},
				api.Ins{Op: op, Lock: lock, A: x0, B: w}, api.Ins{Op: op, Lock: lock, A: w, B: w})
		}
	}
	for op := api.Mov; op <= api.Cmpxchg; op++ {
		for _, lock := range []bool{false, true} {
			wantWrong(t, api.ErrForm,
				api.Ins{Op: op, Lock: lock, A: x0, B: x0}, api.Ins{Op: op, Lock: lock, A: x0, B: zR9},
				api.Ins{Op: op, Lock: lock, A: nine, B: rax}, api.Ins{Op: op, Lock: lock, A: nine, B: x0}, api.Ins{Op: op, Lock: lock, A: nine, B: nine})
		}
	}
	for _, op := range []int{api.Xchg, api.Cmpxchg} {
		for _, lock := range []bool{false, true} {
			wantWrong(t, api.ErrForm,
				api.Ins{Op: op, Lock: lock, A: x0, B: nine}, api.Ins{Op: op, Lock: lock, A: rax, B: x0}, api.Ins{Op: op, Lock: lock, A: rax, B: r9})
		}
	}
}

func TestP701OperandsWhereNoneMayBe(t *testing.T) {
	for _, i := range []api.Ins{
		{Op: api.Jmp, To: "x"}, {Op: api.Jmp, To: "1x"}, {Op: api.Jcc, Cond: api.L, To: "x"}, {Op: api.Mfence}, {Op: api.Nop}, {Op: api.Hlt},
	} {
		for _, o := range operands() {
			first, second := i, i
			first.A, second.B = o, o
			if o != none {
				wantWrong(t, api.ErrForm, first, second)
			}
		}
	}
}

func TestP701Lock(t *testing.T) {
	for _, op := range toXor {
		wantRight(t, api.Ins{Op: op, Lock: true, A: x0, B: rax}, api.OK)
		wantRight(t, api.Ins{Op: op, Lock: true, A: zR9, B: nine}, api.OK)
		wantWrong(t, api.ErrForm,
			api.Ins{Op: op, Lock: true, A: rax, B: x0}, api.Ins{Op: op, Lock: true, A: rax, B: r9}, api.Ins{Op: op, Lock: true, A: rax, B: nine})
	}
	wantWrong(t, api.ErrForm,
		api.Ins{Op: api.Mov, Lock: true, A: x0, B: rax}, api.Ins{Op: api.Mov, Lock: true, A: rax, B: x0},
		api.Ins{Op: api.Cmp, Lock: true, A: x0, B: rax}, api.Ins{Op: api.Cmp, Lock: true, A: rax, B: x0},
		api.Ins{Op: api.Xchg, Lock: true, A: x0, B: rax}, api.Ins{Op: api.Cmpxchg, A: x0, B: rax},
		api.Ins{Op: api.Jmp, Lock: true, To: "x"}, api.Ins{Op: api.Jcc, Lock: true, Cond: api.E, To: "x"},
		api.Ins{Op: api.Mfence, Lock: true}, api.Ins{Op: api.Nop, Lock: true}, api.Ins{Op: api.Hlt, Lock: true})
}

func TestP701Cond(t *testing.T) {
	for _, cond := range []int{math.MinInt, -1, 0, api.Ae + 1, math.MaxInt} {
		// The form is asked for ahead of the name.
		wantWrong(t, api.ErrForm, api.Ins{Op: api.Jcc, Cond: cond, To: "x"}, api.Ins{Op: api.Jcc, Cond: cond, To: "mov"}, api.Ins{Op: api.Jcc, Cond: cond})
	}
	for _, cond := range append(allConds, math.MinInt, -1, api.Ae+1, math.MaxInt) {
		wantWrong(t, api.ErrForm,
			api.Ins{Op: api.Jmp, Cond: cond, To: "x"}, api.Ins{Op: api.Jmp, Cond: cond, To: "mov"},
			api.Ins{Op: api.Mov, Cond: cond, A: rax, B: nine}, api.Ins{Op: api.Cmp, Cond: cond, A: x0, B: nine}, api.Ins{Op: api.Xor, Cond: cond, A: x0, B: rax},
			api.Ins{Op: api.Xchg, Cond: cond, A: x0, B: rax}, api.Ins{Op: api.Cmpxchg, Lock: true, Cond: cond, A: x0, B: rax},
			api.Ins{Op: api.Mfence, Cond: cond}, api.Ins{Op: api.Nop, Cond: cond}, api.Ins{Op: api.Hlt, Cond: cond})
	}
	wantRight(t, api.Ins{Op: api.Jcc, Cond: api.E, To: "x"}, api.OK)
	wantRight(t, api.Ins{Op: api.Jcc, Cond: api.Ae, To: "x"}, api.OK)
}

func TestP701Names(t *testing.T) {
	for _, to := range append(goodNames, strings.Repeat("\U0010FFFF", api.MaxName)) {
		wantRight(t, api.Ins{Op: api.Jmp, To: to}, api.OK)
		wantRight(t, api.Ins{Op: api.Jcc, Cond: api.B, To: to}, api.OK)
	}
	for _, to := range append(badNames, strings.Repeat("\U0010FFFF", api.MaxName+1), strings.Repeat("a", 1<<20)) {
		wantWrong(t, api.ErrName, api.Ins{Op: api.Jmp, To: to}, api.Ins{Op: api.Jcc, Cond: api.B, To: to})
	}
}

func TestP701TextsWhereNoneMayBe(t *testing.T) {
	for _, to := range slices.Concat(goodNames, badNames) {
		if to == "" {
			continue
		}
		wantWrong(t, api.ErrForm,
			api.Ins{Op: api.Mov, A: rax, B: x0, To: to}, api.Ins{Op: api.Cmp, A: x0, B: rax, To: to}, api.Ins{Op: api.Or, A: rax, B: nine, To: to},
			api.Ins{Op: api.Xchg, A: x0, B: rax, To: to}, api.Ins{Op: api.Cmpxchg, Lock: true, A: x0, B: rax, To: to},
			api.Ins{Op: api.Mfence, To: to}, api.Ins{Op: api.Nop, To: to}, api.Ins{Op: api.Hlt, To: to})
	}
}

func TestP701LabelsAreNotAskedFor(t *testing.T) {
	for _, i := range []api.Ins{
		{Op: api.Add, A: x0, B: rax}, {Op: api.Jcc, Cond: api.G, To: "x"}, {Op: api.Mfence}, {Op: api.Jmp, To: "1x"}, {Op: api.Nop, To: "x"}, {},
	} {
		want := ask(t, i)
		for _, labels := range allLabels {
			i.Labels = slices.Clone(labels)
			wantTold(t, i, want)
			if !slices.Equal(i.Labels, labels) {
				t.Errorf("labels %q were written over: %q", labels, i.Labels)
			}
		}
	}
}

func TestP702Examples(t *testing.T) {
	wantTold(t, api.Ins{Op: api.Add, A: x0, B: rax}, told{reads: x0, writes: x0, parts: 2, next: true})
	wantTold(t, api.Ins{Op: api.Add, Lock: true, A: x0, B: rax}, told{reads: x0, writes: x0, locked: true, fence: true, parts: 1, next: true})
	wantTold(t, api.Ins{Op: api.Mov, A: rax, B: x0}, told{reads: x0, parts: 1, next: true})
}

func TestP702OneOfEachRow(t *testing.T) {
	wantTold(t, api.Ins{Op: api.Mov, A: rax, B: nine}, told{parts: 1, next: true})
	wantTold(t, api.Ins{Op: api.Mov, A: rax, B: zR9}, told{reads: zR9, parts: 1, next: true})
	wantTold(t, api.Ins{Op: api.Mov, A: y5, B: r9}, told{writes: y5, parts: 1, next: true})
	wantTold(t, api.Ins{Op: api.Cmp, A: rax, B: r9}, told{parts: 1, next: true})
	wantTold(t, api.Ins{Op: api.Cmp, A: rax, B: y5}, told{reads: y5, parts: 1, next: true})
	wantTold(t, api.Ins{Op: api.Cmp, A: zR9, B: nine}, told{reads: zR9, parts: 1, next: true})
	for _, op := range toXor {
		wantTold(t, api.Ins{Op: op, A: rax, B: nine}, told{parts: 1, next: true})
		wantTold(t, api.Ins{Op: op, A: rax, B: xRax}, told{reads: xRax, parts: 1, next: true})
		wantTold(t, api.Ins{Op: op, A: xRax, B: nine}, told{reads: xRax, writes: xRax, parts: 2, next: true})
		wantTold(t, api.Ins{Op: op, Lock: true, A: y5, B: nine}, told{reads: y5, writes: y5, locked: true, fence: true, parts: 1, next: true})
	}
	wantTold(t, api.Ins{Op: api.Xchg, A: y5, B: rax}, told{reads: y5, writes: y5, locked: true, fence: true, parts: 1, next: true})
	wantTold(t, api.Ins{Op: api.Cmpxchg, Lock: true, A: zR9, B: rax}, told{reads: zR9, writes: zR9, locked: true, fence: true, parts: 1, next: true})
	wantTold(t, api.Ins{Op: api.Jmp, To: "x"}, told{parts: 1, jump: true})
	wantTold(t, api.Ins{Op: api.Jcc, Cond: api.Ne, To: "x"}, told{parts: 1, next: true, jump: true})
	wantTold(t, api.Ins{Op: api.Mfence}, told{fence: true, parts: 1, next: true})
	wantTold(t, api.Ins{Op: api.Nop}, told{parts: 1, next: true})
	wantTold(t, api.Ins{Op: api.Hlt}, told{parts: 1})
}

func TestP702NothingIsToldOfWrongOnes(t *testing.T) {
	wantWrong(t, api.ErrForm,
		api.Ins{}, api.Ins{Op: api.Mov, A: x0, B: y5}, api.Ins{Op: api.Add, A: x0, B: y5}, api.Ins{Op: api.Mov, Lock: true, A: x0, B: rax},
		api.Ins{Op: api.Xchg, A: x0, B: nine}, api.Ins{Op: api.Xchg, Lock: true, A: x0, B: rax}, api.Ins{Op: api.Cmpxchg, A: x0, B: rax},
		api.Ins{Op: api.Mfence, Cond: api.E}, api.Ins{Op: api.Mfence, Lock: true}, api.Ins{Op: api.Mfence, A: x0}, api.Ins{Op: api.Nop, To: "x"},
		api.Ins{Op: api.Hlt, B: x0}, api.Ins{Op: api.Jcc, To: "x"}, api.Ins{Op: api.Add, A: x0, B: rax, To: "x"})
	wantWrong(t, api.ErrName, api.Ins{Op: api.Jmp}, api.Ins{Op: api.Jmp, To: "hlt"}, api.Ins{Op: api.Jcc, Cond: api.E}, api.Ins{Op: api.Jcc, Cond: api.E, To: "je"})
}

// TestP701P702AllThatMayBe holds each instruction of some fields against the promises, spelled a second time.
func TestP701P702AllThatMayBe(t *testing.T) {
	texts := []string{"", "x", longest, longest + "q", "mov"}
	for _, op := range someOps {
		for _, cond := range someConds {
			for _, lock := range []bool{false, true} {
				for _, a := range operands() {
					for _, b := range operands() {
						i := api.Ins{Op: op, Lock: lock, Cond: cond, A: a, B: b}
						for _, i.To = range texts {
							wantTold(t, i, spelled(i, spelledRight(i)))
						}
						// One fault is told of very many instructions: the first few are enough.
						if t.Failed() {
							return
						}
					}
				}
			}
		}
	}
}

// full has something in each field, so that each may become another or zero.
func full() api.Ins {
	return api.Ins{
		Op: api.Jcc, Lock: true, Cond: api.L, To: "x", Labels: []string{"a", "b", "c"},
		A: api.Opd{Kind: api.KAt, Reg: 1, Sym: 2, N: 3}, B: api.Opd{Kind: api.KBy, Reg: 4, Sym: 5, N: 6},
	}
}

func wantSame(t *testing.T, a, b api.Ins, want bool) {
	t.Helper()
	if Same(a, b) != want || Same(b, a) != want {
		t.Errorf("Same(%+v, %+v) is %v, the other way %v, not %v", a, b, Same(a, b), Same(b, a), want)
	}
}

func TestP703OneFieldIsUnlike(t *testing.T) {
	for at, change := range []func(i *api.Ins){
		func(i *api.Ins) { i.Op = api.Jmp }, func(i *api.Ins) { i.Op = 0 },
		func(i *api.Ins) { i.Lock = false },
		func(i *api.Ins) { i.Cond = api.Le }, func(i *api.Ins) { i.Cond = 0 },
		func(i *api.Ins) { i.A.Kind = api.KBy }, func(i *api.Ins) { i.A.Reg = 2 }, func(i *api.Ins) { i.A.Sym = 3 }, func(i *api.Ins) { i.A.N = 4 },
		func(i *api.Ins) { i.B.Kind = api.KAt }, func(i *api.Ins) { i.B.Reg = 5 }, func(i *api.Ins) { i.B.Sym = 6 }, func(i *api.Ins) { i.B.N = 7 },
		func(i *api.Ins) { i.A = none }, func(i *api.Ins) { i.B = none }, func(i *api.Ins) { i.A, i.B = i.B, i.A },
		func(i *api.Ins) { i.To = "X" }, func(i *api.Ins) { i.To = "" }, func(i *api.Ins) { i.To = "x\x00" },
		func(i *api.Ins) { i.Labels = nil }, func(i *api.Ins) { i.Labels = i.Labels[:2] }, func(i *api.Ins) { i.Labels = i.Labels[1:] },
		func(i *api.Ins) { i.Labels = append(i.Labels, "d") }, func(i *api.Ins) { i.Labels = append(i.Labels, "") },
		func(i *api.Ins) { i.Labels[0] = "" }, func(i *api.Ins) { i.Labels[1] = "B" }, func(i *api.Ins) { i.Labels[2] = "b" },
		func(i *api.Ins) { i.Labels[0], i.Labels[1] = "b", "a" }, func(i *api.Ins) { slices.Reverse(i.Labels) },
		func(i *api.Ins) { i.Labels = []string{"ab", "c"} }, func(i *api.Ins) { i.Labels = []string{"abc", "", ""} },
	} {
		b := full()
		change(&b)
		if Same(full(), b) {
			t.Errorf("change %d isn't seen", at)
		}
		wantSame(t, full(), b, false)
		wantSame(t, b, b, true)
	}
}

func TestP703SameFields(t *testing.T) {
	wantSame(t, full(), full(), true)
	wantSame(t, api.Ins{}, api.Ins{}, true)
	wantSame(t, api.Ins{}, full(), false)
	// What may not be is held against its like as well.
	wantSame(t, api.Ins{Op: 99, Cond: -1, A: wrongs[3], To: "\xff"}, api.Ins{Op: 99, Cond: -1, A: wrongs[3], To: "\xff"}, true)
	wantSame(t, api.Ins{Op: 99}, api.Ins{Op: 98}, false)
}

func TestP703Labels(t *testing.T) {
	for x, a := range allLabels {
		for y, b := range allLabels {
			// The first two are both empty: nil and an empty list are one.
			want := x == y || x < 2 && y < 2
			wantSame(t, api.Ins{Op: api.Nop, Labels: slices.Clone(a)}, api.Ins{Op: api.Nop, Labels: slices.Clone(b)}, want)
		}
	}
	spare := []string{"a", "b", "c"}
	wantSame(t, api.Ins{Labels: spare[:1]}, api.Ins{Labels: []string{"a"}}, true)
}
