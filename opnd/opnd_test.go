package opnd

import (
	"math"
	"strconv"
	"strings"
	"testing"

	"paling/api"
)

// regWords are the document's words of the registers, from 0 on.
const regWords = "rax rbx rcx rdx rsi rdi r8 r9"

// strange is a part of a kind that the document has not.
type strange struct{}

func (strange) Text(syms ...string) string { return "strange" }

// within has a RegPart's fields and methods, and is none.
type within struct{ RegPart }

// withinNum, withinAt and withinBy are such of the other kinds.
type withinNum struct{ NumPart }

type withinAt struct{ AtPart }

type withinBy struct{ ByPart }

// strangers are parts that no operand has.
func strangers() []Part {
	var none *RegPart
	return []Part{
		nil, none, strange{}, &strange{}, within{RegPart{2}}, withinNum{NumPart{2}}, withinAt{AtPart{2, 2}}, withinBy{ByPart{2, 2}},
		&RegPart{2}, &NumPart{2}, &AtPart{2, 2}, &ByPart{2, 2},
	}
}

var (
	someKinds = []int{math.MinInt, -1, api.KNone, api.KReg, api.KNum, api.KAt, api.KBy, 5, 6, math.MaxInt}
	someRegs  = []int{math.MinInt, -8, -1, 0, 1, 2, 3, 4, 5, 6, 7, 8, 9, 256, math.MaxInt}
	someSyms  = []int{math.MinInt, -2, -1, 0, 1, 2, 3, 63, 64, math.MaxInt}
	someNs    = []int64{math.MinInt64, -12, -1, 0, 1, 2, 10, 63, 64, math.MaxInt64}
)

// operands are all of some kinds and numbers, right ones and wrong ones.
func operands() []api.Opd {
	var all []api.Opd
	for _, kind := range someKinds {
		for _, reg := range someRegs {
			for _, sym := range someSyms {
				for _, n := range someNs {
					all = append(all, api.Opd{Kind: kind, Reg: reg, Sym: sym, N: n})
				}
			}
		}
	}
	return all
}

// parts are all of the four kinds, of some numbers, right ones and wrong ones.
func parts() []Part {
	var all []Part
	for _, reg := range someRegs {
		all = append(all, RegPart{reg})
	}
	for _, n := range someNs {
		all = append(all, NumPart{n})
	}
	for _, sym := range someSyms {
		for _, n := range someNs {
			all = append(all, AtPart{sym, n})
		}
		for _, reg := range someRegs {
			all = append(all, ByPart{sym, reg})
		}
	}
	return all
}

// spelledOf is the promise of Of, word by word; nil of operands that are not right.
func spelledOf(o api.Opd) Part {
	isReg := o.Reg >= 0 && o.Reg <= 7
	if o.Kind == api.KReg && isReg && o.Sym == 0 && o.N == 0 {
		return RegPart{o.Reg}
	}
	if o.Kind == api.KNum && o.Reg == 0 && o.Sym == 0 {
		return NumPart{o.N}
	}
	if o.Kind == api.KAt && o.Sym >= 0 && o.N >= 0 && o.Reg == 0 {
		return AtPart{o.Sym, o.N}
	}
	if o.Kind == api.KBy && o.Sym >= 0 && isReg && o.N == 0 {
		return ByPart{o.Sym, o.Reg}
	}
	return nil
}

// spelledBack has each part that an operand has, with that operand, as the promise of Back says.
func spelledBack() map[Part]api.Opd {
	back := map[Part]api.Opd{}
	for _, o := range operands() {
		if p := spelledOf(o); p != nil {
			back[p] = o
		}
	}
	return back
}

// spelledText is the promise of a part's Text, word by word, o being what Back should tell of the part.
func spelledText(o api.Opd, syms []string) string {
	regs := strings.Fields(regWords)
	name, named := "", false
	for i, s := range syms {
		if i == o.Sym {
			name, named = s, true
		}
	}
	switch {
	case o.Kind == api.KReg:
		return regs[o.Reg]
	case o.Kind == api.KNum:
		return strconv.FormatInt(o.N, 10)
	case o.Kind == api.KAt && named:
		return name + "[" + strconv.FormatInt(o.N, 10) + "]"
	case o.Kind == api.KBy && named:
		return name + "[" + regs[o.Reg] + "]"
	}
	return ""
}

func wantRight(t *testing.T, o api.Opd, want bool) {
	t.Helper()
	if got := Right(o); got != want {
		t.Errorf("Right(%+v): %v, not %v", o, got, want)
	}
}

// wantOf holds Of against the part want, or against nil and false if want is nil.
func wantOf(t *testing.T, o api.Opd, want Part) {
	t.Helper()
	if p, ok := Of(o); p != want || ok != (want != nil) {
		t.Errorf("Of(%+v): %#v %v, not %#v", o, p, ok, want)
	}
}

func wantBack(t *testing.T, p Part, want api.Opd) {
	t.Helper()
	if got := Back(p); got != want {
		t.Errorf("Back(%#v): %+v, not %+v", p, got, want)
	}
}

func wantNum(t *testing.T, p Part, n int64, ok bool) {
	t.Helper()
	if got, k := Num(p); got != n || k != ok {
		t.Errorf("Num(%#v): %d %v, not %d %v", p, got, k, n, ok)
	}
}

func wantMemory(t *testing.T, p Part, sym int, ok bool) {
	t.Helper()
	if got, k := Memory(p); got != sym || k != ok {
		t.Errorf("Memory(%#v): %d %v, not %d %v", p, got, k, sym, ok)
	}
}

func wantPartText(t *testing.T, p Part, want string, syms ...string) {
	t.Helper()
	if got := p.Text(syms...); got != want {
		t.Errorf("%#v.Text(%q): %q, not %q", p, syms, got, want)
	}
}

func wantText(t *testing.T, o api.Opd, want string, syms ...string) {
	t.Helper()
	if got := Text(o, syms...); got != want {
		t.Errorf("Text(%+v, %q): %q, not %q", o, syms, got, want)
	}
}

// paniced is what Reg(p) panics with; nil, if it does not.
func paniced(p Part) (what any) {
	defer func() { what = recover() }()
	Reg(p)
	return nil
}

func TestP601ThereAndBack(t *testing.T) {
	for _, c := range []struct {
		o api.Opd
		p Part
	}{
		{api.Opd{Kind: api.KReg}, RegPart{}},
		{api.Opd{Kind: api.KReg, Reg: 7}, RegPart{7}},
		{api.Opd{Kind: api.KNum}, NumPart{}},
		{api.Opd{Kind: api.KNum, N: -3}, NumPart{-3}},
		{api.Opd{Kind: api.KNum, N: math.MinInt64}, NumPart{math.MinInt64}},
		{api.Opd{Kind: api.KNum, N: math.MaxInt64}, NumPart{math.MaxInt64}},
		{api.Opd{Kind: api.KAt}, AtPart{}},
		{api.Opd{Kind: api.KAt, Sym: 1, N: 5}, AtPart{1, 5}},
		{api.Opd{Kind: api.KAt, Sym: math.MaxInt, N: math.MaxInt64}, AtPart{math.MaxInt, math.MaxInt64}},
		{api.Opd{Kind: api.KBy}, ByPart{}},
		{api.Opd{Kind: api.KBy, Sym: 2, Reg: 1}, ByPart{2, 1}},
		{api.Opd{Kind: api.KBy, Sym: math.MaxInt, Reg: 7}, ByPart{math.MaxInt, 7}},
	} {
		wantRight(t, c.o, true)
		wantOf(t, c.o, c.p)
		wantBack(t, c.p, c.o)
	}
}

func TestP601WrongOperands(t *testing.T) {
	for _, o := range []api.Opd{
		{}, {Reg: 1}, {Sym: 1}, {N: 1},
		{Kind: -1}, {Kind: 5}, {Kind: math.MinInt}, {Kind: math.MaxInt},
		{Kind: api.KReg, Reg: -1}, {Kind: api.KReg, Reg: 8}, {Kind: api.KReg, Sym: 1}, {Kind: api.KReg, N: 1}, {Kind: api.KReg, N: -1},
		{Kind: api.KNum, Reg: 1}, {Kind: api.KNum, Reg: -1}, {Kind: api.KNum, Sym: 1}, {Kind: api.KNum, Sym: -1},
		{Kind: api.KAt, Sym: -1}, {Kind: api.KAt, N: -1}, {Kind: api.KAt, Reg: 1}, {Kind: api.KAt, Reg: -1},
		{Kind: api.KBy, Sym: -1}, {Kind: api.KBy, Reg: -1}, {Kind: api.KBy, Reg: 8}, {Kind: api.KBy, N: 1}, {Kind: api.KBy, N: -1},
	} {
		wantRight(t, o, false)
		wantOf(t, o, nil)
	}
}

func TestP601AllOperands(t *testing.T) {
	for _, o := range operands() {
		want := spelledOf(o)
		wantRight(t, o, want != nil)
		wantOf(t, o, want)
		if want != nil {
			wantBack(t, want, o)
		}
	}
}

func TestP601WrongParts(t *testing.T) {
	for _, p := range []Part{
		RegPart{-1}, RegPart{8}, RegPart{math.MinInt}, RegPart{math.MaxInt},
		AtPart{-1, 0}, AtPart{0, -1}, AtPart{math.MinInt, math.MinInt64},
		ByPart{-1, 0}, ByPart{0, -1}, ByPart{0, 8},
	} {
		wantBack(t, p, api.Opd{})
	}
	for _, p := range strangers() {
		wantBack(t, p, api.Opd{})
	}
}

func TestP601AllParts(t *testing.T) {
	back := spelledBack()
	for _, p := range parts() {
		wantBack(t, p, back[p])
	}
}

func TestP602Reg(t *testing.T) {
	for _, r := range someRegs {
		if got := Reg(RegPart{r}); got != r {
			t.Errorf("Reg(RegPart{%d}): %d", r, got)
		}
	}
}

func TestP602RegPanics(t *testing.T) {
	others := append(strangers(), NumPart{}, NumPart{2}, AtPart{}, AtPart{1, 2}, ByPart{}, ByPart{1, 2})
	for _, p := range others {
		what := paniced(p)
		if what == nil {
			t.Errorf("Reg(%#v) does not panic", p)
			continue
		}
		// A failed assertion is told by an error that speaks of the conversion.
		err, ok := what.(error)
		if !ok || !strings.Contains(err.Error(), "interface conversion") {
			t.Errorf("Reg(%#v) panics with %v, not by the assertion", p, what)
		}
	}
}

func TestP602Num(t *testing.T) {
	for _, n := range someNs {
		wantNum(t, NumPart{n}, n, true)
	}
	for _, p := range append(strangers(), RegPart{3}, AtPart{3, 3}, ByPart{3, 3}) {
		wantNum(t, p, 0, false)
	}
}

func TestP602Memory(t *testing.T) {
	wantMemory(t, AtPart{4, 1}, 4, true)
	wantMemory(t, ByPart{5, 1}, 5, true)
	// A part of any numbers is an AtPart or a ByPart nevertheless.
	for _, sym := range someSyms {
		wantMemory(t, AtPart{sym, -1}, sym, true)
		wantMemory(t, ByPart{sym, 8}, sym, true)
	}
	for _, p := range append(strangers(), RegPart{3}, NumPart{3}) {
		wantMemory(t, p, 0, false)
	}
}

func TestP602OfAllParts(t *testing.T) {
	for _, p := range parts() {
		kinds := 0
		if paniced(p) == nil {
			kinds++
		}
		if _, ok := Num(p); ok {
			kinds++
		}
		if _, ok := Memory(p); ok {
			kinds++
		}
		if kinds != 1 {
			t.Errorf("%#v is of %d kinds", p, kinds)
		}
	}
}

func TestP603Parts(t *testing.T) {
	for r, word := range strings.Fields(regWords) {
		wantPartText(t, RegPart{r}, word)
		wantPartText(t, ByPart{0, r}, "x["+word+"]", "x")
	}
	wantPartText(t, RegPart{6}, "r8", "x", "y")
	wantPartText(t, NumPart{}, "0")
	wantPartText(t, NumPart{-3}, "-3", "x")
	wantPartText(t, NumPart{math.MinInt64}, "-9223372036854775808")
	wantPartText(t, NumPart{math.MaxInt64}, "9223372036854775807")
	wantPartText(t, AtPart{}, "x[0]", "x")
	wantPartText(t, AtPart{0, 7}, "x[7]", "x", "y")
	wantPartText(t, AtPart{1, 12}, "\u00e9t\u00e9[12]", "x", "\u00e9t\u00e9")
	wantPartText(t, AtPart{2, math.MaxInt64}, "z[9223372036854775807]", "x", "y", "z")
	wantPartText(t, ByPart{0, 1}, "x[rbx]", "x")
	wantPartText(t, ByPart{1, 7}, "y[r9]", "x", "y")
}

func TestP603NamesAreWrittenAsTheyAre(t *testing.T) {
	for _, name := range []string{"", "mov", "1x", "a b", "[", "\xff", "\x00"} {
		wantPartText(t, AtPart{1, 3}, name+"[3]", "x", name, "z")
		wantPartText(t, ByPart{1, 3}, name+"[rdx]", "x", name, "z")
	}
}

func TestP603EmptyParts(t *testing.T) {
	wantPartText(t, RegPart{-1}, "", "x")
	wantPartText(t, RegPart{8}, "", "x")
	for _, p := range []Part{AtPart{}, ByPart{}, AtPart{0, 3}, ByPart{0, 3}} {
		wantPartText(t, p, "")
	}
	for _, p := range []Part{
		AtPart{1, 0}, AtPart{-1, 0}, AtPart{0, -1}, AtPart{math.MaxInt, 0}, AtPart{math.MinInt, 0},
		ByPart{1, 0}, ByPart{-1, 0}, ByPart{0, -1}, ByPart{0, 8}, ByPart{math.MaxInt, 0}, ByPart{math.MinInt, 0},
	} {
		wantPartText(t, p, "", "x")
	}
}

func TestP603Operands(t *testing.T) {
	wantText(t, api.Opd{Kind: api.KBy, Reg: 1}, "x[rbx]", "x")
	wantText(t, api.Opd{Kind: api.KBy, Sym: 1, Reg: 7}, "y[r9]", "x", "y")
	wantText(t, api.Opd{Kind: api.KAt, Sym: 1, N: 5}, "y[5]", "x", "y")
	wantText(t, api.Opd{Kind: api.KAt, Sym: 2, N: 5}, "", "x", "y")
	wantText(t, api.Opd{Kind: api.KAt}, "")
	wantText(t, api.Opd{Kind: api.KNum}, "0")
	wantText(t, api.Opd{Kind: api.KNum, N: -12}, "-12", "x")
	wantText(t, api.Opd{Kind: api.KReg, Reg: 7}, "r9")
	wantText(t, api.Opd{Kind: api.KReg, Reg: 8}, "")
	wantText(t, api.Opd{}, "", "x")
	wantText(t, api.Opd{Kind: api.KReg, Sym: 1}, "", "x", "y")
	wantText(t, api.Opd{Kind: api.KNum, Reg: 1, N: 3}, "", "x")
	wantText(t, api.Opd{Kind: api.KAt, Reg: 1}, "", "x")
	wantText(t, api.Opd{Kind: api.KBy, N: 1}, "", "x")
	wantText(t, api.Opd{Kind: 5}, "", "x")
}

func TestP603AllOperandsAndParts(t *testing.T) {
	back := spelledBack()
	for _, syms := range [][]string{nil, {"x"}, {"x", "y", "\u00e9t\u00e9"}, {"", "x"}, make([]string, api.MaxSyms)} {
		for _, p := range parts() {
			wantPartText(t, p, spelledText(back[p], syms), syms...)
		}
		for _, o := range operands() {
			want := ""
			if spelledOf(o) != nil {
				want = spelledText(o, syms)
			}
			wantText(t, o, want, syms...)
		}
	}
}

func TestP603NamesAreNotKept(t *testing.T) {
	syms := []string{"x", "y"}
	got := Text(api.Opd{Kind: api.KAt, Sym: 1, N: 2}, syms...)
	if syms[0] != "x" || syms[1] != "y" {
		t.Errorf("Text wrote into the names: %q", syms)
	}
	syms[1] = "z"
	if got != "y[2]" {
		t.Errorf("the text was changed behind the call: %q", got)
	}
}
