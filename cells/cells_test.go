package cells

import (
	"math"
	"slices"
	"strconv"
	"testing"

	"paling/api"
	"paling/opnd"
	"paling/valid"
)

var hlt = api.Ins{Op: api.Hlt}

func at(sym int, n int64) api.Opd { return api.Opd{Kind: api.KAt, Sym: sym, N: n} }

func by(sym, reg int) api.Opd { return api.Opd{Kind: api.KBy, Sym: sym, Reg: reg} }

func reg(n int) api.Opd { return api.Opd{Kind: api.KReg, Reg: n} }

func num(n int64) api.Opd { return api.Opd{Kind: api.KNum, N: n} }

func op(n int, a, b api.Opd) api.Ins { return api.Ins{Op: n, A: a, B: b} }

func thread(list ...api.Ins) api.Thread { return api.Thread{Ins: list} }

func sym(name string, size int, init ...int64) api.Sym {
	return api.Sym{Name: name, Size: size, Init: slices.Clone(init)}
}

// full is so many numbers, none of which is 0, and each another one.
func full(n int, first int64) []int64 {
	var out []int64
	for i := range n {
		out = append(out, first+int64(i))
	}
	return out
}

// sample has symbols with all, some and no Init, of one cell, of several and of as many as may be; it is made anew each time.
func sample() api.Prog {
	return api.Prog{
		Syms: []api.Sym{
			sym("x", 3, 7, -1), sym("y", 1), sym("z", 2, 5, 6), sym("one", 1, math.MinInt64),
			sym("most", api.MaxSize, 0, 0, 9), sym("all", api.MaxSize, full(api.MaxSize, 100)...), sym("end", 2, math.MaxInt64),
		},
		Threads: []api.Thread{
			thread(op(api.Mov, at(0, 2), num(1)), op(api.Mov, reg(0), by(4, 1)), hlt),
			thread(hlt),
		},
	}
}

// bases are the first cells of the sample's symbols, and behind them the number of all cells.
var bases = []int{0, 3, 4, 6, 7, 71, 135, 137}

// greatest has as many cells as there may be: none of them begins with what another one does.
func greatest() api.Prog {
	var p api.Prog
	for i := range api.MaxSyms {
		p.Syms = append(p.Syms, sym("s"+strconv.Itoa(i), api.MaxSize, full(api.MaxSize, int64(i*api.MaxSize+1))...))
	}
	return p
}

// refused are programs that may not be: one for each code and each part of a program, the symbols of most of them being right.
func refused() map[string]api.Prog {
	turned := func(turn func(p *api.Prog)) api.Prog {
		p := sample()
		turn(&p)
		return p
	}
	first := func(i api.Ins) api.Prog {
		return turned(func(p *api.Prog) { p.Threads[0].Ins[0] = i })
	}
	many := greatest()
	many.Syms = append(many.Syms, sym("more", 1))
	return map[string]api.Prog{
		"a symbol too many":         many,
		"a thread too many":         turned(func(p *api.Prog) { p.Threads = slices.Repeat([]api.Thread{thread(hlt)}, api.MaxThreads+1) }),
		"a wrong name":              turned(func(p *api.Prog) { p.Syms[1].Name = "mov" }),
		"a name twice":              turned(func(p *api.Prog) { p.Syms[6].Name = "x" }),
		"a size of 0":               turned(func(p *api.Prog) { p.Syms[1].Size = 0 }),
		"a size below 0":            turned(func(p *api.Prog) { p.Syms[6] = sym("end", -1) }),
		"a size too great":          turned(func(p *api.Prog) { p.Syms[6].Size = api.MaxSize + 1 }),
		"too many numbers":          turned(func(p *api.Prog) { p.Syms[2].Init = []int64{5, 6, 7} }),
		"a thread of nothing":       turned(func(p *api.Prog) { p.Threads[1].Ins = nil }),
		"a thread that doesn't end": turned(func(p *api.Prog) { p.Threads[1].Ins = []api.Ins{{Op: api.Nop}} }),
		"too long a thread":         turned(func(p *api.Prog) { p.Threads[1].Ins = slices.Repeat([]api.Ins{hlt}, api.MaxIns+1) }),
		"a wrong instruction":       first(op(api.Mov, at(0, 0), at(0, 1))),
		"a wrong label":             first(api.Ins{Op: api.Nop, Labels: []string{"1x"}}),
		"a label twice":             first(api.Ins{Op: api.Nop, Labels: []string{"a", "a"}}),
		"a jump to no label":        first(api.Ins{Op: api.Jmp, To: "a"}),
		"a symbol that is not":      first(op(api.Mov, at(7, 0), num(1))),
		"a cell that is not":        first(op(api.Mov, at(0, 3), num(1))),
	}
}

func wantAddr(t *testing.T, p api.Prog, o api.Opd, regs [8]int64, want int, wantOK bool) {
	t.Helper()
	if got, ok := Addr(p, o, regs); got != want || ok != wantOK {
		t.Errorf("Addr of %+v with %v is %d, %t, not %d, %t", o, regs, got, ok, want, wantOK)
	}
}

// only has the number n in register r; the number of all others is other.
func only(r int, n, other int64) [8]int64 {
	var out [8]int64
	for i := range out {
		out[i] = other
	}
	out[r] = n
	return out
}

func TestP1101Size(t *testing.T) {
	wants := []struct {
		p    api.Prog
		want int
	}{
		{sample(), 137},
		{greatest(), 4096},
		{api.Prog{}, 0},
		{api.Prog{Syms: []api.Sym{}, Threads: []api.Thread{thread(hlt)}}, 0},
		{api.Prog{Syms: []api.Sym{sym("x", 1)}}, 1},
		{api.Prog{Syms: []api.Sym{sym("x", 64, 1)}}, 64},
		{api.Prog{Syms: []api.Sym{sym("x", 3), sym("y", 1)}}, 4},
	}
	for i, w := range wants {
		if got := Size(w.p); got != w.want {
			t.Errorf("Size %d is %d, not %d", i, got, w.want)
		}
	}
}

func TestP1101Base(t *testing.T) {
	p := sample()
	for s := range p.Syms {
		if got := Base(p, s); got != bases[s] {
			t.Errorf("Base of %d is %d, not %d", s, got, bases[s])
		}
	}
	for _, s := range []int{-1, -2, len(p.Syms), len(p.Syms) + 1, api.MaxSyms, 1 << 32, math.MinInt, math.MaxInt} {
		if got := Base(p, s); got != -1 {
			t.Errorf("Base of %d, which is none: %d, not -1", s, got)
		}
	}
	q := greatest()
	for s, want := range map[int]int{-1: -1, 0: 0, 1: 64, 62: 3968, 63: 4032, 64: -1} {
		if got := Base(q, s); got != want {
			t.Errorf("Base of %d of 64 is %d, not %d", s, got, want)
		}
	}
}

func TestP1101Start(t *testing.T) {
	want := []int64{7, -1, 0, 0, 5, 6, math.MinInt64, 0, 0, 9}
	want = append(want, make([]int64, 61)...)
	want = append(want, full(64, 100)...)
	want = append(want, math.MaxInt64, 0)
	if got := Start(sample()); !slices.Equal(got, want) {
		t.Errorf("Start is %v, not %v", got, want)
	}
	if got := Start(greatest()); !slices.Equal(got, full(4096, 1)) {
		t.Errorf("Start of 4096 cells is %v", got)
	}
	for what, p := range map[string]api.Prog{"none at all": {}, "a thread alone": {Threads: []api.Thread{thread(hlt)}}} {
		if got := Start(p); len(got) != 0 {
			t.Errorf("Start of %s is %v", what, got)
		}
	}
	zeros := api.Prog{Syms: []api.Sym{{Name: "x", Size: 2}, {Name: "y", Size: 1, Init: []int64{}}}}
	if got := Start(zeros); !slices.Equal(got, []int64{0, 0, 0}) {
		t.Errorf("Start without any Init is %v", got)
	}
}

func TestP1101Sym(t *testing.T) {
	p := sample()
	for s := range p.Syms {
		for a := bases[s]; a < bases[s+1]; a++ {
			if got := Sym(p, a); got != s {
				t.Errorf("Sym of %d is %d, not %d", a, got, s)
			}
		}
	}
	for _, a := range []int{-1, -2, -64, 137, 138, 4096, 1 << 32, math.MinInt, math.MaxInt} {
		if got := Sym(p, a); got != -1 {
			t.Errorf("Sym of %d, which is no cell: %d, not -1", a, got)
		}
	}
	q := greatest()
	for a, want := range map[int]int{-1: -1, 0: 0, 63: 0, 64: 1, 4031: 62, 4032: 63, 4095: 63, 4096: -1} {
		if got := Sym(q, a); got != want {
			t.Errorf("Sym of %d of 4096 is %d, not %d", a, got, want)
		}
	}
	for _, a := range []int{-1, 0, 1} {
		if got := Sym(api.Prog{}, a); got != -1 {
			t.Errorf("Sym of %d where no cell is: %d, not -1", a, got)
		}
	}
}

func TestP1101Refused(t *testing.T) {
	for what, p := range refused() {
		if valid.Check(p) == api.OK {
			t.Fatalf("%s: valid.Check takes it", what)
		}
		if got := Size(p); got != 0 {
			t.Errorf("%s: Size is %d, not 0", what, got)
		}
		if got := Start(p); len(got) != 0 {
			t.Errorf("%s: Start is %v, not none", what, got)
		}
		for s := -1; s <= len(p.Syms); s++ {
			if got := Base(p, s); got != -1 {
				t.Errorf("%s: Base of %d is %d, not -1", what, s, got)
			}
		}
		for a := -1; a <= 140; a++ {
			if got := Sym(p, a); got != -1 {
				t.Errorf("%s: Sym of %d is %d, not -1", what, a, got)
			}
		}
	}
}

// TestP1101StartIsOnesOwn writes over what Start has answered, and over what it was made of.
func TestP1101StartIsOnesOwn(t *testing.T) {
	p := sample()
	first, second := Start(p), Start(p)
	want := slices.Clone(second)
	for i := range first {
		first[i] = 77
	}
	_ = append(first, 77)
	if !slices.Equal(second, want) || !slices.Equal(Start(p), want) || !valid.Same(p, sample()) {
		t.Error("cells that Start answered were written over, and more has changed")
	}
	for s := range p.Syms {
		for n := range p.Syms[s].Init {
			p.Syms[s].Init[n] = 78
		}
	}
	if !slices.Equal(second, want) {
		t.Error("the Init of a symbol was written over, and the cells have changed")
	}
	// A symbol that has all its Init, alone, could answer just that list.
	q := api.Prog{Syms: []api.Sym{sym("x", 2, 5, 6)}}
	Start(q)[0] = 77
	if !slices.Equal(q.Syms[0].Init, []int64{5, 6}) || !slices.Equal(Start(q), []int64{5, 6}) {
		t.Error("the cells of one symbol were written over, and its Init has changed")
	}
}

// TestP1101InitGoesOn hands in an Init that has more behind its end: what stands there is no cell's.
func TestP1101InitGoesOn(t *testing.T) {
	numbers := []int64{1, 2, 3, 4}
	p := api.Prog{Syms: []api.Sym{{Name: "x", Size: 3, Init: numbers[:1]}, {Name: "y", Size: 2, Init: numbers[1:2]}}}
	if got := Start(p); !slices.Equal(got, []int64{1, 0, 0, 2, 0}) {
		t.Errorf("Start is %v, not 1 0 0 2 0", got)
	}
	if !slices.Equal(numbers, []int64{1, 2, 3, 4}) {
		t.Errorf("Start has written into what it was handed: %v", numbers)
	}
}

func TestP1102Examples(t *testing.T) {
	p := api.Prog{Syms: []api.Sym{sym("x", 3), sym("y", 1)}}
	if got := Base(p, 1); got != 3 {
		t.Errorf("Base of the second symbol behind one of 3 cells is %d, not 3", got)
	}
	wantAddr(t, p, by(0, 0), only(0, -1, 0), 0, false)
	wantAddr(t, p, by(1, 0), only(0, -1, 0), 0, false)
}

func TestP1102At(t *testing.T) {
	p := sample()
	for s, one := range p.Syms {
		for n := range one.Size {
			wantAddr(t, p, at(s, int64(n)), only(n%8, 500, -500), bases[s]+n, true)
		}
		size := int64(one.Size)
		for _, n := range []int64{size, size + 1, -1, -size, 64, 1 << 31, 1 << 32, 1<<32 + size - 1, 1 << 62, math.MaxInt64, math.MinInt64} {
			wantAddr(t, p, at(s, n), [8]int64{}, 0, false)
		}
	}
}

func TestP1102By(t *testing.T) {
	p := sample()
	for s, one := range p.Syms {
		size := int64(one.Size)
		for r := range 8 {
			// The other registers tell no cell where this one does, and the other way round.
			wantAddr(t, p, by(s, r), only(r, 0, -1), bases[s], true)
			wantAddr(t, p, by(s, r), only(r, size-1, size), bases[s+1]-1, true)
			wantAddr(t, p, by(s, r), only(r, size/2, size), bases[s]+one.Size/2, true)
			for _, n := range []int64{size, size + 1, -1, -size, 1 << 31, 1 << 32, 1<<32 + size - 1, -1 << 32, 1 << 62, math.MaxInt64, math.MinInt64, math.MinInt64 + size - 1} {
				wantAddr(t, p, by(s, r), only(r, n, 0), 0, false)
			}
		}
	}
	regs := [8]int64{0, 1, 2, 3, 4, 5, 6, 7}
	for r := range 8 {
		wantAddr(t, p, by(4, r), regs, 7+r, true)
	}
}

func TestP1102NoSymbol(t *testing.T) {
	p := sample()
	for _, s := range []int{-1, -2, len(p.Syms), len(p.Syms) + 1, api.MaxSyms, 1 << 32, math.MinInt, math.MaxInt} {
		wantAddr(t, p, at(s, 0), [8]int64{}, 0, false)
		wantAddr(t, p, by(s, 0), [8]int64{}, 0, false)
	}
	for _, none := range []api.Prog{{}, {Threads: []api.Thread{thread(hlt)}}} {
		wantAddr(t, none, at(0, 0), [8]int64{}, 0, false)
		wantAddr(t, none, by(0, 0), [8]int64{}, 0, false)
	}
}

func TestP1102NoMemory(t *testing.T) {
	p := sample()
	wrong := []api.Opd{
		{}, reg(0), reg(1), reg(7), num(0), num(1), num(-1),
		{Sym: 1}, {N: 1}, {Kind: -1}, {Kind: 5}, {Kind: 5, Sym: 1}, {Kind: api.KReg, Sym: 1}, {Kind: api.KNum, Sym: 1},
		{Kind: api.KAt, Reg: 1}, {Kind: api.KAt, Reg: -1}, {Kind: api.KAt, Reg: 8}, {Kind: api.KAt, Sym: 4, N: 1, Reg: 1},
		{Kind: api.KBy, N: 1}, {Kind: api.KBy, N: -1}, {Kind: api.KBy, Sym: 4, Reg: 1, N: 1},
		by(0, -1), by(0, 8), by(0, 9), by(0, math.MinInt), by(0, math.MaxInt), at(0, -1), at(1, math.MinInt64), at(-1, 0), by(-1, 0),
	}
	for _, o := range wrong {
		for _, n := range []int64{0, 1, -1} {
			wantAddr(t, p, o, only(0, n, 0), 0, false)
		}
	}
}

func TestP1102Refused(t *testing.T) {
	for what, p := range refused() {
		for s := -1; s <= len(p.Syms); s++ {
			for _, o := range []api.Opd{at(s, 0), by(s, 0)} {
				if got, ok := Addr(p, o, [8]int64{}); got != 0 || ok {
					t.Errorf("%s: Addr of %+v is %d, %t", what, o, got, ok)
				}
			}
		}
	}
}

// cell is one of the row: which symbol's, which of that one's, and what it begins with.
type cell struct {
	sym   int
	n     int64
	start int64
}

// spelledRow is the row, cell by cell, as the chapter's section Words says.
func spelledRow(p api.Prog) []cell {
	if valid.Check(p) != api.OK {
		return nil
	}
	var out []cell
	for s, one := range p.Syms {
		for n := int64(0); n < int64(one.Size); n++ {
			c := cell{sym: s, n: n}
			if n < int64(len(one.Init)) {
				c.start = one.Init[n]
			}
			out = append(out, c)
		}
	}
	return out
}

// spelledAddr looks for the cell in the row: it is -1, if there is none.
func spelledAddr(row []cell, o api.Opd, regs [8]int64) int {
	if !opnd.Right(o) || o.Kind == api.KReg || o.Kind == api.KNum {
		return -1
	}
	n := o.N
	if o.Kind == api.KBy {
		n = regs[o.Reg]
	}
	return slices.IndexFunc(row, func(c cell) bool { return c.sym == o.Sym && c.n == n })
}

func holdRow(t *testing.T, p api.Prog, row []cell) {
	t.Helper()
	if got := Size(p); got != len(row) {
		t.Errorf("Size is %d, not %d, of %+v", got, len(row), p)
	}
	start := Start(p)
	if len(start) != len(row) {
		t.Fatalf("Start has %d cells, not %d, of %+v", len(start), len(row), p)
	}
	for a, c := range row {
		if start[a] != c.start || Sym(p, a) != c.sym {
			t.Errorf("cell %d: Start %d, Sym %d, not %+v, of %+v", a, start[a], Sym(p, a), c, p)
		}
	}
	if Sym(p, -1) != -1 || Sym(p, len(row)) != -1 {
		t.Errorf("Sym just outside of %d cells is %d and %d", len(row), Sym(p, -1), Sym(p, len(row)))
	}
	for s := -1; s <= len(p.Syms); s++ {
		want := slices.IndexFunc(row, func(c cell) bool { return c.sym == s })
		if got := Base(p, s); got != want {
			t.Errorf("Base of %d is %d, not %d, of %+v", s, got, want, p)
		}
	}
}

func holdAddr(t *testing.T, p api.Prog, row []cell, o api.Opd, regs [8]int64) bool {
	t.Helper()
	want := spelledAddr(row, o, regs)
	wantAddr(t, p, o, regs, max(want, 0), want >= 0)
	return want >= 0
}

// dice are numbers that seem to follow no rule, the same in each run.
type dice uint64

func (d *dice) roll(n int) int {
	*d = *d*6364136223846793005 + 1442695040888963407
	return int(uint64(*d)>>33) % n
}

// among is one of the list.
func among[T any](d *dice, list ...T) T { return list[d.roll(len(list))] }

// thrown is a program of a few symbols; now and then it may not be.
func thrown(d *dice) api.Prog {
	var p api.Prog
	for i := range d.roll(5) {
		size := among(d, 1, 1, 2, 3, 5, 64)
		s := sym("s"+strconv.Itoa(i), size)
		for range d.roll(size + 1) {
			s.Init = append(s.Init, int64(d.roll(9)-4))
		}
		p.Syms = append(p.Syms, s)
	}
	for range d.roll(3) {
		p.Threads = append(p.Threads, thread(hlt))
	}
	if len(p.Syms) > 0 && d.roll(8) == 0 {
		p.Syms[d.roll(len(p.Syms))].Size = among(d, -1, 0, 1, 65)
	}
	if len(p.Threads) > 0 && d.roll(16) == 0 {
		p.Threads[d.roll(len(p.Threads))].Ins = nil
	}
	return p
}

func thrownNum(d *dice) int64 {
	return among[int64](d, 0, 0, 1, 1, 2, 3, 4, 5, 63, 64, -1, -2, 1<<32, 1<<62, math.MinInt64, math.MaxInt64)
}

func thrownOpd(d *dice) api.Opd {
	o := api.Opd{Kind: among(d, api.KAt, api.KBy), Sym: d.roll(6) - 1}
	if o.Kind == api.KAt || d.roll(8) == 0 {
		o.N = thrownNum(d)
	}
	if o.Kind == api.KBy || d.roll(8) == 0 {
		o.Reg = d.roll(10) - 1
	}
	if d.roll(16) == 0 {
		o.Kind = d.roll(7) - 1
	}
	return o
}

func TestP1101AllKinds(t *testing.T) {
	d := dice(11)
	right := 0
	for range 3000 {
		p := thrown(&d)
		row := spelledRow(p)
		right += min(len(row), 1)
		holdRow(t, p, row)
		if t.Failed() {
			return
		}
	}
	if right < 1000 || right > 2900 {
		t.Errorf("%d programs of 3000 had cells", right)
	}
	holdRow(t, sample(), spelledRow(sample()))
	holdRow(t, greatest(), spelledRow(greatest()))
}

func TestP1102AllKinds(t *testing.T) {
	d := dice(12)
	there := 0
	for range 3000 {
		p := thrown(&d)
		row := spelledRow(p)
		for range 20 {
			var regs [8]int64
			for r := range regs {
				regs[r] = thrownNum(&d)
			}
			if holdAddr(t, p, row, thrownOpd(&d), regs) {
				there++
			}
		}
		if t.Failed() {
			return
		}
	}
	if there < 3000 || there > 57000 {
		t.Errorf("%d operands of 60000 told a cell", there)
	}
}

// TestP1102EachCellOnce goes through all cells of all symbols by both kinds of memory: each comes up, and its symbol is right.
func TestP1102EachCellOnce(t *testing.T) {
	for _, p := range []api.Prog{sample(), greatest()} {
		next := 0
		for s, one := range p.Syms {
			for n := range int64(one.Size) {
				wantAddr(t, p, at(s, n), [8]int64{}, next, true)
				wantAddr(t, p, by(s, int(n%8)), only(int(n%8), n, -1), next, true)
				if got := Sym(p, next); got != s {
					t.Errorf("Sym of %d is %d, not %d", next, got, s)
				}
				next++
			}
		}
		if next != Size(p) {
			t.Errorf("there are %d cells, and Size is %d", next, Size(p))
		}
	}
}

func TestP1102ChangesNothing(t *testing.T) {
	p := sample()
	regs := only(1, 5, 2)
	for range 2 {
		wantAddr(t, p, by(4, 1), regs, 12, true)
		wantAddr(t, p, at(0, 2), regs, 2, true)
		wantAddr(t, p, by(0, 1), regs, 0, false)
		Base(p, 2)
		Sym(p, 2)
		Size(p)
	}
	if !valid.Same(p, sample()) || regs != only(1, 5, 2) {
		t.Error("what was handed in has changed")
	}
}
