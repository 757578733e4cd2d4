package state

import (
	"fmt"
	"math"
	"reflect"
	"slices"
	"strings"
	"testing"

	"paling/api"
)

func entry(addr int, val int64) api.Entry { return api.Entry{Addr: addr, Val: val} }

// first has several of everything; it is made anew each time.
func first() api.State {
	x := api.Thr{Regs: [8]int64{1, -2, 0, 40, 5, 6, -70, 8}, Flags: api.Flags{S: true, O: true}, PC: 3, Phase: 1, Latch: -9, Status: api.Halted}
	y := api.Thr{Regs: [8]int64{math.MinInt64, math.MaxInt64, 11, 1}, Flags: api.Flags{Z: true, C: true}, PC: 12, Phase: 2, Latch: 10, Status: api.Trapped}
	return api.State{
		Mem:  []int64{7, -2, 0, 10},
		Thr:  []api.Thr{x, {}, y},
		Bufs: [][]api.Entry{{entry(0, 5), entry(1, -6), entry(0, 5)}, {}, {entry(3, 0)}},
		Lock: 2,
	}
}

const firstText = "7,-2,0,10" +
	"|3.1.-9.1.0101.1,-2,0,40,5,6,-70,8" +
	"|0.0.0.0.0000.0,0,0,0,0,0,0,0" +
	"|12.2.10.2.1010.-9223372036854775808,9223372036854775807,11,1,0,0,0,0" +
	"(0=5,1=-6,0=5)()(3=0)#2"

// anew writes s out once more: no list of it is nil, or has room for more.
func anew(s api.State) api.State {
	out := api.State{Mem: make([]int64, len(s.Mem)), Thr: make([]api.Thr, len(s.Thr)), Bufs: make([][]api.Entry, len(s.Bufs)), Lock: s.Lock}
	copy(out.Mem, s.Mem)
	copy(out.Thr, s.Thr)
	for i, buf := range s.Bufs {
		out.Bufs[i] = make([]api.Entry, len(buf))
		copy(out.Bufs[i], buf)
	}
	return out
}

// like says once more what Same is; of two lists without items it sees no difference.
func like(a, b api.State) bool { return reflect.DeepEqual(anew(a), anew(b)) }

func commas(list []int64) string {
	return strings.ReplaceAll(strings.Trim(fmt.Sprint(list), "[]"), " ", ",")
}

// spelled says once more what Text is.
func spelled(s api.State) string {
	out := commas(s.Mem)
	for _, x := range s.Thr {
		flags := strings.NewReplacer("true", "1", "false", "0", " ", "").Replace(fmt.Sprint(x.Flags.Z, x.Flags.S, x.Flags.C, x.Flags.O))
		out += fmt.Sprintf("|%d.%d.%d.%d.%s.%s", x.PC, x.Phase, x.Latch, x.Status, flags, commas(x.Regs[:]))
	}
	for _, buf := range s.Bufs {
		var list []string
		for _, e := range buf {
			list = append(list, fmt.Sprintf("%d=%d", e.Addr, e.Val))
		}
		out += "(" + strings.Join(list, ",") + ")"
	}
	return out + fmt.Sprintf("#%d", s.Lock)
}

// turn makes of a state, in its own memory, one that is other in one place.
type turn struct {
	what string
	do   func(s *api.State)
}

// turned is s, made anew, and turned.
func (t turn) turned(s api.State) api.State {
	s = anew(s)
	t.do(&s)
	return s
}

// others are numbers that n is not: near it, far from it, and such as have its digits.
func others(n int64) []int64 {
	list := []int64{0, 1, -1, math.MinInt64, math.MaxInt64, n + 1, n - 1, -n, n * 10, n ^ 1<<32, n ^ math.MinInt64}
	slices.Sort(list)
	return slices.DeleteFunc(slices.Compact(list), func(m int64) bool { return m == n })
}

// numberTurns give the number that at tells each other one.
func numberTurns(what string, n int64, put func(s *api.State, n int64)) []turn {
	var out []turn
	for _, m := range others(n) {
		out = append(out, turn{fmt.Sprint(what, " is ", m), func(s *api.State) { put(s, m) }})
	}
	return out
}

// thrTurns are all that turn a field of thread i.
func thrTurns(i int, x api.Thr) []turn {
	out := slices.Concat(
		numberTurns(fmt.Sprint("PC of ", i), int64(x.PC), func(s *api.State, n int64) { s.Thr[i].PC = int(n) }),
		numberTurns(fmt.Sprint("Phase of ", i), int64(x.Phase), func(s *api.State, n int64) { s.Thr[i].Phase = int(n) }),
		numberTurns(fmt.Sprint("Latch of ", i), x.Latch, func(s *api.State, n int64) { s.Thr[i].Latch = n }),
		numberTurns(fmt.Sprint("Status of ", i), int64(x.Status), func(s *api.State, n int64) { s.Thr[i].Status = int(n) }),
		[]turn{
			{fmt.Sprint("Z of ", i), func(s *api.State) { s.Thr[i].Flags.Z = !s.Thr[i].Flags.Z }},
			{fmt.Sprint("S of ", i), func(s *api.State) { s.Thr[i].Flags.S = !s.Thr[i].Flags.S }},
			{fmt.Sprint("C of ", i), func(s *api.State) { s.Thr[i].Flags.C = !s.Thr[i].Flags.C }},
			{fmt.Sprint("O of ", i), func(s *api.State) { s.Thr[i].Flags.O = !s.Thr[i].Flags.O }},
		})
	for r, n := range x.Regs {
		out = append(out, numberTurns(fmt.Sprint("register ", r, " of ", i), n, func(s *api.State, n int64) { s.Thr[i].Regs[r] = n })...)
	}
	return out
}

// bufTurns are all that turn a field of an entry of buffer i, or make it one longer or shorter.
func bufTurns(i int, buf []api.Entry) []turn {
	var out []turn
	for j, e := range buf {
		out = slices.Concat(out,
			numberTurns(fmt.Sprint("Addr of ", i, ", ", j), int64(e.Addr), func(s *api.State, n int64) { s.Bufs[i][j].Addr = int(n) }),
			numberTurns(fmt.Sprint("Val of ", i, ", ", j), e.Val, func(s *api.State, n int64) { s.Bufs[i][j].Val = n }),
			[]turn{{fmt.Sprint("without entry ", i, ", ", j), func(s *api.State) { s.Bufs[i] = slices.Delete(s.Bufs[i], j, j+1) }}})
	}
	for j := range len(buf) + 1 {
		for _, e := range []api.Entry{{}, entry(1, -6), entry(-1, math.MinInt64)} {
			out = append(out, turn{fmt.Sprint("with ", e, " at ", i, ", ", j), func(s *api.State) { s.Bufs[i] = slices.Insert(s.Bufs[i], j, e) }})
		}
	}
	return out
}

// lengthTurns make the list of cells, of threads or of buffers one longer or shorter, at each place.
func lengthTurns(s api.State) []turn {
	var out []turn
	for i := range s.Mem {
		out = append(out, turn{fmt.Sprint("without cell ", i), func(s *api.State) { s.Mem = slices.Delete(s.Mem, i, i+1) }})
	}
	for i := range s.Thr {
		out = append(out, turn{fmt.Sprint("without thread ", i), func(s *api.State) { s.Thr = slices.Delete(s.Thr, i, i+1) }})
	}
	for i := range s.Bufs {
		out = append(out, turn{fmt.Sprint("without buffer ", i), func(s *api.State) { s.Bufs = slices.Delete(s.Bufs, i, i+1) }})
	}
	for i := range len(s.Mem) + 1 {
		for _, n := range []int64{0, -2, math.MaxInt64} {
			out = append(out, turn{fmt.Sprint("with ", n, " as cell ", i), func(s *api.State) { s.Mem = slices.Insert(s.Mem, i, n) }})
		}
	}
	for i := range len(s.Thr) + 1 {
		for _, x := range []api.Thr{{}, {PC: 3, Status: api.Halted}} {
			out = append(out, turn{fmt.Sprint("with ", x, " as thread ", i), func(s *api.State) { s.Thr = slices.Insert(s.Thr, i, x) }})
		}
	}
	for i := range len(s.Bufs) + 1 {
		for _, e := range [][]api.Entry{nil, {}, {entry(0, 0)}, {entry(0, 5), entry(1, -6), entry(0, 5)}} {
			out = append(out, turn{fmt.Sprint("with ", e, " as buffer ", i), func(s *api.State) { s.Bufs = slices.Insert(s.Bufs, i, slices.Clone(e)) }})
		}
	}
	return out
}

// turns are all of s: each field alone, and each list one longer or shorter.
func turns(s api.State) []turn {
	out := numberTurns("Lock", int64(s.Lock), func(s *api.State, n int64) { s.Lock = int(n) })
	for i, n := range s.Mem {
		out = append(out, numberTurns(fmt.Sprint("cell ", i), n, func(s *api.State, n int64) { s.Mem[i] = n })...)
	}
	for i, x := range s.Thr {
		out = append(out, thrTurns(i, x)...)
	}
	for i, buf := range s.Bufs {
		out = append(out, bufTurns(i, buf)...)
	}
	return append(out, lengthTurns(s)...)
}

// moved are states with just what first has, but in another order, or in another list.
func moved() []api.State {
	var out []api.State
	add := func(do func(s *api.State)) { out = append(out, turn{do: do}.turned(first())) }
	add(func(s *api.State) { slices.Reverse(s.Mem) })
	add(func(s *api.State) { s.Mem[0], s.Mem[1] = s.Mem[1], s.Mem[0] })
	add(func(s *api.State) { slices.Reverse(s.Thr) })
	add(func(s *api.State) { s.Thr[1], s.Thr[2] = s.Thr[2], s.Thr[1] })
	add(func(s *api.State) { slices.Reverse(s.Thr[0].Regs[:]) })
	add(func(s *api.State) { s.Thr[0].Flags, s.Thr[2].Flags = s.Thr[2].Flags, s.Thr[0].Flags })
	add(func(s *api.State) { s.Thr[0].PC, s.Thr[0].Phase = s.Thr[0].Phase, s.Thr[0].PC })
	add(func(s *api.State) { s.Thr[0].PC, s.Thr[0].Status = s.Thr[0].Status, s.Thr[0].PC })
	add(func(s *api.State) { slices.Reverse(s.Bufs) })
	add(func(s *api.State) { s.Bufs[0], s.Bufs[1] = s.Bufs[1], s.Bufs[0] })
	add(func(s *api.State) { s.Bufs[1], s.Bufs[2] = s.Bufs[2], s.Bufs[1] })
	add(func(s *api.State) { s.Bufs[0][0], s.Bufs[0][1] = s.Bufs[0][1], s.Bufs[0][0] })
	add(func(s *api.State) { s.Bufs[0], s.Bufs[1] = s.Bufs[0][:2], s.Bufs[0][2:] })
	add(func(s *api.State) { s.Bufs[0], s.Bufs[1] = s.Bufs[0][:1], s.Bufs[0][1:] })
	add(func(s *api.State) { s.Bufs[1], s.Bufs[2] = s.Bufs[2], nil; s.Bufs[0] = append(s.Bufs[0], entry(7, 7)) })
	add(func(s *api.State) { s.Bufs[0] = append(s.Bufs[0], s.Bufs[2]...); s.Bufs[2] = nil })
	add(func(s *api.State) { s.Bufs = [][]api.Entry{s.Bufs[0], s.Bufs[2]} })
	add(func(s *api.State) { s.Bufs = [][]api.Entry{slices.Concat(s.Bufs...)} })
	add(func(s *api.State) { s.Bufs = nil })
	add(func(s *api.State) { s.Thr = nil })
	add(func(s *api.State) { s.Mem = nil })
	return out
}

// edges are states that lack things; none is Same as another one.
func edges() map[string]api.State {
	return map[string]api.State{
		"nothing":                      {},
		"a cell of 0":                  {Mem: []int64{0}},
		"two cells of 0":               {Mem: []int64{0, 0}},
		"the least and the greatest":   {Mem: []int64{math.MinInt64, math.MaxInt64, -1}},
		"a zero thread":                {Thr: []api.Thr{{}}},
		"two zero threads":             {Thr: []api.Thr{{}, {}}},
		"a buffer without entries":     {Bufs: [][]api.Entry{{}}},
		"two buffers without entries":  {Bufs: [][]api.Entry{{}, nil}},
		"a zero entry":                 {Bufs: [][]api.Entry{{{}}}},
		"two zero entries":             {Bufs: [][]api.Entry{{{}, {}}}},
		"two buffers of a zero entry":  {Bufs: [][]api.Entry{{{}}, {{}}}},
		"an entry in the first":        {Bufs: [][]api.Entry{{entry(1, 2)}, {}, nil}},
		"an entry in the second":       {Bufs: [][]api.Entry{{}, {entry(1, 2)}, {}}},
		"an entry in the third":        {Bufs: [][]api.Entry{{}, {}, {entry(1, 2)}}},
		"an entry of least numbers":    {Bufs: [][]api.Entry{{entry(math.MinInt, math.MinInt64)}}},
		"an entry of greatest numbers": {Bufs: [][]api.Entry{{entry(math.MaxInt, math.MaxInt64)}}},
		"a lock":                       {Lock: 1},
		"a lock below 0":               {Lock: -1},
		"the least lock":               {Lock: math.MinInt},
		"the greatest lock":            {Lock: math.MaxInt},
		"a lock and an entry":          {Bufs: [][]api.Entry{{entry(1, 2)}}, Lock: 1},
		"a lock and no entry":          {Bufs: [][]api.Entry{{}}, Lock: 1},
		"a thread of least numbers": {Thr: []api.Thr{{
			Regs: [8]int64{math.MinInt64, math.MinInt64}, PC: math.MinInt, Phase: math.MinInt, Latch: math.MinInt64, Status: math.MinInt}}},
		"a thread of greatest numbers": {Thr: []api.Thr{{
			Regs: [8]int64{7: math.MaxInt64}, Flags: api.Flags{Z: true, S: true, C: true, O: true}, PC: math.MaxInt, Phase: math.MaxInt, Latch: math.MaxInt64, Status: math.MaxInt}}},
	}
}

// pool is many states: the first one, all that are other in one place, the edges, and what was moved.
func pool() []api.State {
	out := append([]api.State{first()}, moved()...)
	for _, t := range turns(first()) {
		out = append(out, t.turned(first()))
	}
	for _, s := range edges() {
		out = append(out, s)
	}
	return out
}

// thrower throws numbers by a fixed rule.
type thrower uint64

func (r *thrower) below(n int) int {
	*r = *r*6364136223846793005 + 1442695040888963407
	return int(*r>>33) % n
}

func (r *thrower) number() int64 {
	list := []int64{0, 0, 1, -1, 10, 11, 111, -11, 1 << 32, math.MinInt64, math.MaxInt64}
	return list[r.below(len(list))]
}

func (r *thrower) thr() api.Thr {
	x := api.Thr{PC: int(r.number()), Phase: r.below(4), Latch: r.number(), Status: r.below(3)}
	x.Flags = api.Flags{Z: r.below(2) == 0, S: r.below(2) == 0, C: r.below(2) == 0, O: r.below(2) == 0}
	for i := range x.Regs {
		x.Regs[i] = r.number()
	}
	return x
}

// state is one of few cells, threads and buffers, each list now and then nil.
func (r *thrower) state() api.State {
	s := api.State{Lock: r.below(4) - 1}
	for range r.below(4) {
		s.Mem = append(s.Mem, r.number())
	}
	for range r.below(3) {
		s.Thr = append(s.Thr, r.thr())
	}
	for range r.below(4) {
		var buf []api.Entry
		for range r.below(4) {
			buf = append(buf, entry(int(r.number()), r.number()))
		}
		s.Bufs = append(s.Bufs, buf)
	}
	return s
}

func wantSame(t *testing.T, what string, a, b api.State, want bool) {
	t.Helper()
	if Same(a, b) != want || Same(b, a) != want {
		t.Errorf("%s: Same of %v and %v is %t, and turned round %t, not %t", what, a, b, Same(a, b), Same(b, a), want)
	}
}

func wantText(t *testing.T, what string, s api.State, want string) {
	t.Helper()
	if got := Text(s); got != want {
		t.Errorf("%s: Text is %q, not %q", what, got, want)
	}
}

func wantDrained(t *testing.T, what string, s api.State, want bool) {
	t.Helper()
	if got := Drained(s); got != want {
		t.Errorf("%s: Drained of %v is %t", what, s, got)
	}
}

func wantLike(t *testing.T, what string, got, want api.State) {
	t.Helper()
	if !like(got, want) {
		t.Errorf("%s: it is %v, not %v", what, got, want)
	}
}

func TestP1301Same(t *testing.T) {
	for i, s := range pool() {
		wantSame(t, fmt.Sprint("itself, ", i), s, s, true)
		wantSame(t, fmt.Sprint("made anew, ", i), s, anew(s), true)
	}
}

func TestP1301SameEachPlace(t *testing.T) {
	for _, u := range turns(first()) {
		s := u.turned(first())
		wantSame(t, u.what, first(), s, false)
		wantSame(t, u.what+", both", s, u.turned(first()), true)
	}
	for i, s := range moved() {
		wantSame(t, fmt.Sprint("moved, ", i), first(), s, false)
	}
}

func TestP1301SameEdges(t *testing.T) {
	all := edges()
	for what, a := range all {
		for other, b := range all {
			wantSame(t, what+", "+other, a, b, what == other)
		}
	}
}

// TestP1301SameRoom holds lists with room behind them, in which other things stand, against such as have none.
func TestP1301SameRoom(t *testing.T) {
	a, b := first(), first()
	a.Mem = append(a.Mem, 99)[:len(a.Mem)]
	a.Thr = append(a.Thr, api.Thr{PC: 99})[:len(a.Thr)]
	a.Bufs = append(a.Bufs, []api.Entry{{}})[:len(a.Bufs)]
	a.Bufs[0] = append(a.Bufs[0], entry(9, 9))[:len(a.Bufs[0])]
	wantSame(t, "room", a, b, true)
	wantText(t, "room", a, firstText)
}

// nones are states of nothing but lists without items, each of them nil or empty; the buffers stand in bufs.
func nones(bufs ...[][]api.Entry) []api.State {
	var out []api.State
	for _, mem := range [][]int64{nil, {}, make([]int64, 0, 3)} {
		for _, thr := range [][]api.Thr{nil, {}, make([]api.Thr, 0, 3)} {
			for _, b := range bufs {
				out = append(out, api.State{Mem: mem, Thr: thr, Bufs: b})
			}
		}
	}
	return out
}

func TestP1301NilAndEmpty(t *testing.T) {
	none := nones(nil, [][]api.Entry{}, make([][]api.Entry, 0, 3))
	one := nones([][]api.Entry{nil}, [][]api.Entry{{}}, [][]api.Entry{make([]api.Entry, 0, 3)})
	two := nones([][]api.Entry{nil, {}}, [][]api.Entry{{}, nil}, [][]api.Entry{nil, nil}, [][]api.Entry{{}, {}})
	texts := []string{"#0", "()#0", "()()#0"}
	all := [][]api.State{none, one, two}
	for i, list := range all {
		for _, s := range list {
			wantText(t, "without items", s, texts[i])
			wantDrained(t, "without items", s, true)
			wantLike(t, "a copy of one without items", Copy(s), s)
			wantSame(t, "a copy of one without items", Copy(s), s, true)
			for j, others := range all {
				for _, o := range others {
					wantSame(t, "without items", s, o, i == j)
				}
			}
		}
	}
}

func TestP1301Drained(t *testing.T) {
	entries := []string{
		"a zero entry", "two zero entries", "two buffers of a zero entry", "an entry in the first", "an entry in the second",
		"an entry in the third", "an entry of least numbers", "an entry of greatest numbers", "a lock and an entry",
	}
	locks := []string{"a lock", "a lock below 0", "the least lock", "the greatest lock", "a lock and an entry", "a lock and no entry"}
	for what, s := range edges() {
		waits, locked := slices.Contains(entries, what), slices.Contains(locks, what)
		wantDrained(t, what, s, !waits && !locked)
		s.Lock = 0
		wantDrained(t, what+", unlocked", s, !waits)
	}
}

func TestP1301DrainedFirst(t *testing.T) {
	wantDrained(t, "first", first(), false)
	unlocked := first()
	unlocked.Lock = 0
	wantDrained(t, "unlocked", unlocked, false)
	flushed := first()
	flushed.Bufs = [][]api.Entry{{}, nil, {}}
	wantDrained(t, "flushed", flushed, false)
	flushed.Lock = 0
	wantDrained(t, "flushed and unlocked", flushed, true)
	for i := range flushed.Bufs {
		s := anew(flushed)
		s.Bufs[i] = append(s.Bufs[i], api.Entry{})
		wantDrained(t, fmt.Sprint("an entry in ", i), s, false)
	}
	// Nothing but entries and the lock counts.
	for _, u := range turns(flushed) {
		s := u.turned(flushed)
		entries := len(slices.Concat(s.Bufs...))
		wantDrained(t, u.what, s, entries == 0 && s.Lock == 0)
	}
}

func TestP1301DrainedLock(t *testing.T) {
	for _, lock := range []int{1, 2, 64, 65, -1, -64, 1 << 32, -1 << 32, math.MinInt, math.MaxInt} {
		wantDrained(t, "locked", api.State{Lock: lock}, false)
		wantDrained(t, "locked, a buffer", api.State{Bufs: [][]api.Entry{{}}, Lock: lock}, false)
		wantDrained(t, "locked, an entry", api.State{Bufs: [][]api.Entry{{entry(0, 1)}}, Lock: lock}, false)
	}
}

func TestP1301Copy(t *testing.T) {
	for i, s := range pool() {
		was, c := anew(s), Copy(s)
		wantLike(t, fmt.Sprint("the copy, ", i), c, was)
		wantSame(t, fmt.Sprint("the copy, ", i), c, s, true)
		wantLike(t, fmt.Sprint("behind the copying, ", i), s, was)
		wantLike(t, fmt.Sprint("a copy of the copy, ", i), Copy(c), was)
	}
}

// TestP1301CopySharesNothing turns a copy in each place, and what was copied: the other one stays as it was.
func TestP1301CopySharesNothing(t *testing.T) {
	for _, u := range turns(first()) {
		s := first()
		c := Copy(s)
		u.do(&c)
		wantLike(t, u.what+", of the copy", s, first())
		wantLike(t, u.what+", of the copy", c, u.turned(first()))
		s, c = first(), Copy(s)
		u.do(&s)
		wantLike(t, u.what+", of what was copied", c, first())
		d := Copy(c)
		u.do(&c)
		wantLike(t, u.what+", of the copy of a copy", d, first())
	}
}

// TestP1301CopyWrittenOver writes over all of one of them at once.
func TestP1301CopyWrittenOver(t *testing.T) {
	over := func(s api.State) {
		for i := range s.Mem {
			s.Mem[i] = 88
		}
		for i := range s.Thr {
			s.Thr[i] = api.Thr{PC: 88}
		}
		for _, buf := range s.Bufs {
			for i := range buf {
				buf[i] = entry(88, 88)
			}
		}
		for i := range s.Bufs {
			s.Bufs[i] = []api.Entry{entry(99, 99)}
		}
	}
	for i, s := range pool() {
		was, c := anew(s), Copy(s)
		over(c)
		wantLike(t, fmt.Sprint("the copy written over, ", i), s, was)
		c = Copy(s)
		over(s)
		wantLike(t, fmt.Sprint("what was copied written over, ", i), c, was)
	}
}

// roomy is first, each list of which has room behind it, filled with what does not belong to it; it tells the lists with that room, too.
func roomy() (s, room api.State) {
	room = first()
	room.Mem = append(room.Mem, 77, 77)
	room.Thr = append(room.Thr, api.Thr{PC: 77}, api.Thr{PC: 77})
	for i := range room.Bufs {
		room.Bufs[i] = append(room.Bufs[i], entry(77, 77), entry(77, 77))
	}
	room.Bufs = append(room.Bufs, []api.Entry{entry(77, 77)}, []api.Entry{entry(77, 77)})
	s = api.State{Mem: room.Mem[:4], Thr: room.Thr[:3], Lock: 2}
	bufs := append(slices.Clone(room.Bufs[:3]), nil, nil)
	for i := range 3 {
		bufs[i] = bufs[i][:len(first().Bufs[i])]
	}
	s.Bufs = bufs[:3]
	return s, room
}

// TestP1301CopyAddedTo adds to each list of one: neither the other one, nor the room behind its lists, nor another list changes.
func TestP1301CopyAddedTo(t *testing.T) {
	s, room := roomy()
	was := anew(room)
	add := func(s *api.State) {
		s.Mem = append(s.Mem, 55)
		s.Thr = append(s.Thr, api.Thr{PC: 55})
		for i := range s.Bufs {
			s.Bufs[i] = append(s.Bufs[i], entry(55, int64(i)))
		}
		s.Bufs = append(s.Bufs, []api.Entry{entry(55, 55)})
	}
	c := Copy(s)
	wantLike(t, "copied", c, first())
	wantLike(t, "the room, copied", room, was)
	d := Copy(c)
	add(&c)
	want := first()
	add(&want)
	wantLike(t, "the copy, added to", c, want)
	wantLike(t, "what was copied, the copy added to", s, first())
	wantLike(t, "the room, the copy added to", room, was)
	wantLike(t, "the copy of the copy, the copy added to", d, first())
	if behind := s.Bufs[:4][3]; behind != nil {
		t.Errorf("the copy was added to, and behind the buffers is %v", behind)
	}
	add(&s)
	wantLike(t, "what was copied, added to", s, want)
	wantLike(t, "the copy, what was copied added to", c, want)
	wantLike(t, "the copy of the copy, what was copied added to", d, first())
}

// TestP1301CopyListsApart copies buffers that lie in one memory: those of the copy do not.
func TestP1301CopyListsApart(t *testing.T) {
	row := []api.Entry{entry(1, 1), entry(2, 2), entry(3, 3)}
	s := api.State{Bufs: [][]api.Entry{row[:1], row[1:], row, row, row[:0]}}
	c := Copy(s)
	wantLike(t, "apart", c, s)
	for i := range c.Bufs {
		want := anew(c)
		c.Bufs[i] = append(c.Bufs[i], entry(9, 9))
		want.Bufs[i] = append(want.Bufs[i], entry(9, 9))
		wantLike(t, fmt.Sprint("added to ", i), c, want)
		for j := range c.Bufs[i] {
			c.Bufs[i][j].Val, want.Bufs[i][j].Val = int64(-i), int64(-i)
		}
		wantLike(t, fmt.Sprint("written over ", i), c, want)
	}
	if !slices.Equal(row, []api.Entry{entry(1, 1), entry(2, 2), entry(3, 3)}) {
		t.Errorf("what was copied has become %v", row)
	}
}

// TestP1301WritesNothing asks everything of a state with room behind its lists.
func TestP1301WritesNothing(t *testing.T) {
	s, room := roomy()
	was := anew(room)
	for range 2 {
		Same(s, first())
		Same(first(), s)
		Text(s)
		Drained(s)
		Copy(s)
	}
	wantLike(t, "asked", s, first())
	wantLike(t, "asked", room, was)
}

func TestP1302Example(t *testing.T) {
	wantText(t, "the example", api.State{Mem: []int64{1, 2}, Bufs: [][]api.Entry{{entry(0, 5)}}}, "1,2(0=5)#0")
}

func TestP1302Named(t *testing.T) {
	wantText(t, "first", first(), firstText)
	all := map[string]string{
		"nothing":                      "#0",
		"a cell of 0":                  "0#0",
		"two cells of 0":               "0,0#0",
		"the least and the greatest":   "-9223372036854775808,9223372036854775807,-1#0",
		"a zero thread":                "|0.0.0.0.0000.0,0,0,0,0,0,0,0#0",
		"two zero threads":             "|0.0.0.0.0000.0,0,0,0,0,0,0,0|0.0.0.0.0000.0,0,0,0,0,0,0,0#0",
		"a buffer without entries":     "()#0",
		"two buffers without entries":  "()()#0",
		"a zero entry":                 "(0=0)#0",
		"two zero entries":             "(0=0,0=0)#0",
		"two buffers of a zero entry":  "(0=0)(0=0)#0",
		"an entry in the first":        "(1=2)()()#0",
		"an entry in the second":       "()(1=2)()#0",
		"an entry in the third":        "()()(1=2)#0",
		"an entry of least numbers":    "(-9223372036854775808=-9223372036854775808)#0",
		"an entry of greatest numbers": "(9223372036854775807=9223372036854775807)#0",
		"a lock":                       "#1",
		"a lock below 0":               "#-1",
		"the least lock":               "#-9223372036854775808",
		"the greatest lock":            "#9223372036854775807",
		"a lock and an entry":          "(1=2)#1",
		"a lock and no entry":          "()#1",
		"a thread of least numbers":    "|-9223372036854775808.-9223372036854775808.-9223372036854775808.-9223372036854775808.0000.-9223372036854775808,-9223372036854775808,0,0,0,0,0,0#0",
		"a thread of greatest numbers": "|9223372036854775807.9223372036854775807.9223372036854775807.9223372036854775807.1111.0,0,0,0,0,0,0,9223372036854775807#0",
	}
	for what, s := range edges() {
		wantText(t, what, s, all[what])
	}
}

func TestP1302Flags(t *testing.T) {
	for n := range 16 {
		x := api.Thr{Flags: api.Flags{Z: n&8 != 0, S: n&4 != 0, C: n&2 != 0, O: n&1 != 0}}
		wantText(t, "flags", api.State{Thr: []api.Thr{x}}, fmt.Sprintf("|0.0.0.0.%04b.0,0,0,0,0,0,0,0#0", n))
	}
}

func TestP1302Registers(t *testing.T) {
	for r := range 8 {
		for _, n := range []int64{1, -1, 12, math.MinInt64, math.MaxInt64} {
			var x api.Thr
			x.Regs[r] = n
			want := strings.Repeat("0,", r) + fmt.Sprint(n) + strings.Repeat(",0", 7-r)
			wantText(t, "registers", api.State{Thr: []api.Thr{x}}, "|0.0.0.0.0000."+want+"#0")
		}
	}
}

func TestP1302Pool(t *testing.T) {
	for i, s := range pool() {
		wantText(t, fmt.Sprint("pool, ", i), s, spelled(s))
	}
}

func TestP1302Many(t *testing.T) {
	s, r := api.State{Lock: 64}, thrower(2)
	for i := range 4096 {
		s.Mem = append(s.Mem, r.number()^int64(i))
	}
	for i := range 64 {
		s.Thr = append(s.Thr, r.thr())
		s.Bufs = append(s.Bufs, nil)
		for range i * 3 {
			s.Bufs[i] = append(s.Bufs[i], entry(r.below(4096), r.number()))
		}
	}
	wantText(t, "many", s, spelled(s))
	wantLike(t, "many", Copy(s), s)
	wantSame(t, "many", Copy(s), s, true)
}

// hold holds what two states answer against what they are: one Text just if Same, and Same just if all is the same.
func hold(t *testing.T, what string, a, b api.State) {
	t.Helper()
	one, want := Text(a) == Text(b), like(a, b)
	if Same(a, b) != want || Same(b, a) != want || one != want {
		t.Errorf("%s: of %v and %v Same is %t and %t, one Text %t, not %t", what, a, b, Same(a, b), Same(b, a), one, want)
	}
}

// TestP1303Pairs holds each state of the pool against each other one: most of them differ in two places, some in one or none.
func TestP1303Pairs(t *testing.T) {
	all := pool()
	texts := make([]string, len(all))
	for i, s := range all {
		texts[i] = Text(s)
	}
	for i, a := range all {
		for j, b := range all {
			same := Same(a, b)
			if same != (texts[i] == texts[j]) || i == j && !same {
				t.Fatalf("of %v and %v Same is %t, the texts are %q and %q", a, b, same, texts[i], texts[j])
			}
		}
	}
}

// TestP1303OnePlace throws states by a fixed rule, and holds each against itself and against all that are other in one place.
func TestP1303OnePlace(t *testing.T) {
	r := thrower(1)
	for i := range 150 {
		s := r.state()
		was := anew(s)
		hold(t, fmt.Sprint("itself, ", i), s, anew(s))
		hold(t, fmt.Sprint("its copy, ", i), s, Copy(s))
		wantText(t, "thrown", s, spelled(s))
		for _, u := range turns(s) {
			other := u.turned(s)
			hold(t, fmt.Sprint(u.what, ", ", i), s, other)
			wantText(t, u.what, other, spelled(other))
			wantDrained(t, u.what, other, len(slices.Concat(other.Bufs...)) == 0 && other.Lock == 0)
		}
		wantLike(t, fmt.Sprint("behind all, ", i), s, was)
		if t.Failed() {
			t.FailNow()
		}
	}
}

// TestP1303Thrown throws pairs of states: of some nothing, or one place alone, is the same.
func TestP1303Thrown(t *testing.T) {
	r := thrower(3)
	for i := range 20000 {
		a, b := r.state(), r.state()
		hold(t, fmt.Sprint("thrown, ", i), a, b)
		mixed := []api.State{b, b, b, b}
		mixed[0].Mem, mixed[1].Thr, mixed[2].Bufs, mixed[3].Lock = a.Mem, a.Thr, a.Bufs, a.Lock
		for n, m := range mixed {
			hold(t, fmt.Sprint("mixed, ", i, ", ", n), a, m)
			hold(t, fmt.Sprint("mixed, ", i, ", ", n), m, b)
		}
		if t.Failed() {
			t.FailNow()
		}
	}
}

// lists are all of at most so many items.
func lists[T any](most int, items ...T) [][]T {
	out := [][]T{nil}
	for begin := 0; most > 0; most-- {
		end := len(out)
		for _, l := range out[begin:end] {
			for _, x := range items {
				out = append(out, append(slices.Clone(l), x))
			}
		}
		begin = end
	}
	return out
}

// unlike holds that no two of these states, none of which is Same as another one, have one Text.
func unlike(t *testing.T, what string, all []api.State) {
	t.Helper()
	seen := map[string]api.State{}
	for _, s := range all {
		text := Text(s)
		if o, ok := seen[text]; ok {
			t.Fatalf("%s: %v and %v have one Text, %q", what, o, s, text)
		}
		seen[text] = s
	}
	for i, a := range all {
		// The ones close ahead are the most alike.
		for _, b := range all[max(0, i-200):i] {
			if Same(a, b) {
				t.Fatalf("%s: %v and %v are Same", what, a, b)
			}
		}
	}
}

// TestP1303Small goes through all small states of numbers whose digits might run together.
func TestP1303Small(t *testing.T) {
	var all []api.State
	for _, mem := range lists[int64](3, 0, 1, -1, 10, 11) {
		for _, lock := range []int{0, 1, -1, 10, 11} {
			for _, bufs := range lists(2, nil, []api.Entry{entry(1, 1)}, []api.Entry{entry(11, 1)}) {
				all = append(all, api.State{Mem: mem, Bufs: bufs, Lock: lock})
			}
		}
	}
	unlike(t, "cells and lock", all)
	all = nil
	entries := []api.Entry{entry(0, 0), entry(1, 0), entry(0, 1), entry(1, 11), entry(11, 1), entry(-1, 1), entry(1, -1)}
	for _, bufs := range lists(3, lists(2, entries...)[:20]...) {
		all = append(all, api.State{Bufs: bufs})
	}
	unlike(t, "buffers", all)
}

// TestP1303Threads goes through all threads of few numbers, alone and with another one.
func TestP1303Threads(t *testing.T) {
	var all []api.State
	numbers := []int64{0, 1, -1, 11}
	for _, l := range lists(4, numbers...) {
		for n := 0; len(l) == 4 && n < 16; n++ {
			x := api.Thr{PC: int(l[0]), Phase: int(l[1]), Latch: l[2], Status: int(l[3])}
			x.Flags = api.Flags{Z: n&1 != 0, S: n&2 != 0, C: n&4 != 0, O: n&8 != 0}
			all = append(all, api.State{Thr: []api.Thr{x}}, api.State{Thr: []api.Thr{x, {}}})
			if n > 0 || slices.Max(l) > 0 || slices.Min(l) < 0 {
				all = append(all, api.State{Thr: []api.Thr{{}, x}})
			}
		}
	}
	unlike(t, "fields", all)
	all = nil
	for r := range 7 {
		for _, a := range numbers[1:] {
			for _, b := range numbers {
				var x api.Thr
				x.Regs[r], x.Regs[r+1] = a, b
				if b == 0 || r == 0 {
					all = append(all, api.State{Thr: []api.Thr{x}}, api.State{Thr: []api.Thr{x}, Mem: []int64{1}})
				}
			}
		}
	}
	unlike(t, "registers", all)
}
