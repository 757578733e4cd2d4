package word

import (
	"cmp"
	"math"
	"math/big"
	"testing"

	"paling/api"
)

const (
	top = math.MaxInt64
	low = math.MinInt64
)

// flags has flags by their letters.
func flags(letters string) api.Flags {
	var f api.Flags
	for _, c := range letters {
		switch c {
		case 'Z':
			f.Z = true
		case 'S':
			f.S = true
		case 'C':
			f.C = true
		case 'O':
			f.O = true
		}
	}
	return f
}

// numbers lie at and about the ends of 64 bits, of 32 bits, and 0.
func numbers() []int64 {
	ns := []int64{0x0123456789abcdef, -0x0123456789abcdef, 0x5555555555555555, -0x5555555555555556}
	for _, n := range []int64{0, 1 << 32, -1 << 32, 1 << 62, -1 << 62, low} {
		for d := int64(-2); d <= 2; d++ {
			ns = append(ns, n+d)
		}
	}
	return ns
}

// eachPair hands on every pair of the numbers.
func eachPair(f func(a, b int64)) {
	for _, a := range numbers() {
		for _, b := range numbers() {
			f(a, b)
		}
	}
}

// noConds are no conditions.
func noConds() []int { return []int{0, -1, 11, 12, 1 << 32, top, low} }

func unsigned(n int64) *big.Int { return new(big.Int).SetUint64(uint64(n)) }

// wantSum and wantDiff reckon with numbers that have no end, so that nothing goes round unseen.
func wantSum(a, b int64) (int64, api.Flags) {
	exact := new(big.Int).Add(big.NewInt(a), big.NewInt(b))
	carry := new(big.Int).Add(unsigned(a), unsigned(b)).BitLen() > 64
	return wantOf(exact, carry)
}

func wantDiff(a, b int64) (int64, api.Flags) {
	exact := new(big.Int).Sub(big.NewInt(a), big.NewInt(b))
	return wantOf(exact, unsigned(a).Cmp(unsigned(b)) < 0)
}

func wantOf(exact *big.Int, carry bool) (int64, api.Flags) {
	mask := new(big.Int).SetUint64(math.MaxUint64)
	n := int64(new(big.Int).And(exact, mask).Uint64())
	return n, api.Flags{Z: n == 0, S: n < 0, C: carry, O: !exact.IsInt64()}
}

func checkDo(t *testing.T, op int, a, b, want int64, f api.Flags) {
	t.Helper()
	n, g, ok := Do(op, a, b)
	if n != want || g != f || !ok {
		t.Errorf("Do(%d, %d, %d): %d %+v %v, not %d %+v true", op, a, b, n, g, ok, want, f)
	}
}

func TestP101Examples(t *testing.T) {
	checkDo(t, api.Add, top, 1, low, flags("SO"))
	checkDo(t, api.Cmp, 1, 2, 1, flags("SC"))
}

func TestP101AddEnds(t *testing.T) {
	checkDo(t, api.Add, 2, 3, 5, flags(""))
	checkDo(t, api.Add, 0, 0, 0, flags("Z"))
	checkDo(t, api.Add, -1, 1, 0, flags("ZC"))
	checkDo(t, api.Add, -1, 0, -1, flags("S"))
	checkDo(t, api.Add, -1, -1, -2, flags("SC"))
	checkDo(t, api.Add, low, low, 0, flags("ZCO"))
	checkDo(t, api.Add, low, -1, top, flags("CO"))
	checkDo(t, api.Add, top, top, -2, flags("SO"))
	checkDo(t, api.Add, low, top, -1, flags("S"))
}

func TestP101SubEnds(t *testing.T) {
	checkDo(t, api.Sub, 5, 3, 2, flags(""))
	checkDo(t, api.Sub, 5, 5, 0, flags("Z"))
	checkDo(t, api.Sub, 0, 1, -1, flags("SC"))
	checkDo(t, api.Sub, -1, 1, -2, flags("S"))
	checkDo(t, api.Sub, 1, -1, 2, flags("C"))
	checkDo(t, api.Sub, low, 1, top, flags("O"))
	checkDo(t, api.Sub, 0, low, low, flags("SCO"))
	checkDo(t, api.Sub, top, -1, low, flags("SCO"))
	checkDo(t, api.Sub, low, low, 0, flags("Z"))
}

func TestP101CmpKeepsA(t *testing.T) {
	checkDo(t, api.Cmp, 7, 7, 7, flags("Z"))
	checkDo(t, api.Cmp, 0, 0, 0, flags("Z"))
	checkDo(t, api.Cmp, 0, 1, 0, flags("SC"))
	checkDo(t, api.Cmp, -1, 1, -1, flags("S"))
	checkDo(t, api.Cmp, low, 1, low, flags("O"))
	checkDo(t, api.Cmp, top, -1, top, flags("SCO"))
}

func TestP101BitsEnds(t *testing.T) {
	checkDo(t, api.And, 6, 3, 2, flags(""))
	checkDo(t, api.And, 1, 2, 0, flags("Z"))
	checkDo(t, api.And, low, -1, low, flags("S"))
	checkDo(t, api.Or, 6, 3, 7, flags(""))
	checkDo(t, api.Or, 0, 0, 0, flags("Z"))
	checkDo(t, api.Or, low, top, -1, flags("S"))
	checkDo(t, api.Xor, 6, 3, 5, flags(""))
	checkDo(t, api.Xor, low, low, 0, flags("Z"))
	checkDo(t, api.Xor, -1, top, low, flags("S"))
}

func TestP101AddSubCmpEverywhere(t *testing.T) {
	eachPair(func(a, b int64) {
		sum, f := wantSum(a, b)
		checkDo(t, api.Add, a, b, sum, f)
		diff, f := wantDiff(a, b)
		checkDo(t, api.Sub, a, b, diff, f)
		checkDo(t, api.Cmp, a, b, a, f)
	})
}

// bitwise lays n together bit by bit, each bit by a table of four.
func bitwise(a, b int64, table [2][2]uint64) int64 {
	var n uint64
	for i := range 64 {
		n |= table[uint64(a)>>i&1][uint64(b)>>i&1] << i
	}
	return int64(n)
}

func TestP101BitsEverywhere(t *testing.T) {
	tables := map[int][2][2]uint64{
		api.And: {{0, 0}, {0, 1}},
		api.Or:  {{0, 1}, {1, 1}},
		api.Xor: {{0, 1}, {1, 0}},
	}
	eachPair(func(a, b int64) {
		for op, table := range tables {
			n := bitwise(a, b, table)
			checkDo(t, op, a, b, n, api.Flags{Z: n == 0, S: n < 0})
		}
	})
}

func TestP101NoOp(t *testing.T) {
	ops := []int{0, -1, -2, api.Mov, 15, 16, 1<<32 + api.Add, top, low}
	for op := api.Xchg; op <= api.Hlt; op++ {
		ops = append(ops, op)
	}
	for _, op := range ops {
		for _, a := range []int64{0, 1, -1, low, top} {
			if n, f, ok := Do(op, a, 1); n != 0 || f != (api.Flags{}) || ok {
				t.Errorf("Do(%d, %d, 1): %d %+v %v, not 0, no flags, false", op, a, n, f, ok)
			}
		}
	}
}

// eachFlags hands on all sixteen flags.
func eachFlags(use func(f api.Flags)) {
	for i := range 16 {
		use(api.Flags{Z: i&1 != 0, S: i&2 != 0, C: i&4 != 0, O: i&8 != 0})
	}
}

func TestP102Holds(t *testing.T) {
	eachFlags(func(f api.Flags) {
		less := f.S && !f.O || !f.S && f.O
		want := map[int]bool{
			api.E: f.Z, api.Ne: !f.Z,
			api.L: less, api.Ge: !less,
			api.Le: less || f.Z, api.G: !(less || f.Z),
			api.B: f.C, api.Ae: !f.C,
			api.Be: f.C || f.Z, api.A: !(f.C || f.Z),
		}
		for cond, w := range want {
			if Holds(cond, f) != w {
				t.Errorf("Holds(%d, %+v): %v", cond, f, !w)
			}
		}
	})
}

func TestP102HoldsNoCond(t *testing.T) {
	eachFlags(func(f api.Flags) {
		for _, cond := range noConds() {
			if Holds(cond, f) {
				t.Errorf("Holds(%d, %+v): true", cond, f)
			}
		}
	})
}

func TestP102Turned(t *testing.T) {
	want := map[int]int{
		api.E: api.Ne, api.Ne: api.E,
		api.L: api.Ge, api.Ge: api.L,
		api.Le: api.G, api.G: api.Le,
		api.B: api.Ae, api.Ae: api.B,
		api.Be: api.A, api.A: api.Be,
	}
	for cond, w := range want {
		if got := Turned(cond); got != w {
			t.Errorf("Turned(%d): %d, not %d", cond, got, w)
		}
		eachFlags(func(f api.Flags) {
			if Holds(Turned(cond), f) == Holds(cond, f) {
				t.Errorf("%d and Turned(%d) are alike of %+v", cond, cond, f)
			}
		})
	}
}

func TestP102TurnedNoCond(t *testing.T) {
	for _, cond := range noConds() {
		if got := Turned(cond); got != 0 {
			t.Errorf("Turned(%d): %d, not 0", cond, got)
		}
	}
}

func TestP103BehindCmp(t *testing.T) {
	eachPair(func(a, b int64) {
		_, f, _ := Do(api.Cmp, a, b)
		signed, bare := cmp.Compare(a, b), cmp.Compare(uint64(a), uint64(b))
		want := map[int]bool{
			api.E: signed == 0, api.Ne: signed != 0,
			api.L: signed < 0, api.Le: signed <= 0,
			api.G: signed > 0, api.Ge: signed >= 0,
			api.B: bare < 0, api.Be: bare <= 0,
			api.A: bare > 0, api.Ae: bare >= 0,
		}
		for cond, w := range want {
			if Holds(cond, f) != w {
				t.Errorf("Cmp of %d and %d: %d holds: %v", a, b, cond, !w)
			}
		}
	})
}
