package ring

import (
	"math"
	"slices"
	"testing"

	"paling/api"
)

func entry(addr int, val int64) api.Entry { return api.Entry{Addr: addr, Val: val} }

// of is a Ring into which these were pushed.
func of(list ...api.Entry) *Ring {
	r := New()
	for _, e := range list {
		r.Push(e)
	}
	return r
}

func wantList(t *testing.T, what string, r *Ring, want ...api.Entry) {
	t.Helper()
	if got := r.List(); !slices.Equal(got, want) {
		t.Errorf("%s: List is %v, not %v", what, got, want)
	}
	if got := r.Len(); got != len(want) {
		t.Errorf("%s: Len is %d, not %d", what, got, len(want))
	}
}

func wantPop(t *testing.T, what string, r *Ring, want api.Entry, wantOK bool) {
	t.Helper()
	if got, ok := r.Pop(); got != want || ok != wantOK {
		t.Errorf("%s: Pop is %v, %t, not %v, %t", what, got, ok, want, wantOK)
	}
}

func wantLast(t *testing.T, what string, r *Ring, addr int, want int64, wantOK bool) {
	t.Helper()
	if got, ok := r.Last(addr); got != want || ok != wantOK {
		t.Errorf("%s: Last of %d is %d, %t, not %d, %t", what, addr, got, ok, want, wantOK)
	}
}

// spelled says once more what a Ring is: all that was ever pushed, and how many of them were popped.
type spelled struct {
	pushed []api.Entry
	popped int
}

func (s *spelled) list() []api.Entry { return s.pushed[s.popped:] }

func (s *spelled) pop() (api.Entry, bool) {
	if s.popped == len(s.pushed) {
		return api.Entry{}, false
	}
	s.popped++
	return s.pushed[s.popped-1], true
}

// last goes from the eldest on: each entry of that Addr takes the place of the one ahead.
func (s *spelled) last(addr int) (val int64, ok bool) {
	for _, e := range s.list() {
		if e.Addr == addr {
			val, ok = e.Val, true
		}
	}
	return val, ok
}

func (s *spelled) copy() *spelled {
	return &spelled{slices.Clone(s.pushed), s.popped}
}

// hold holds r against s: all that can be asked without changing it.
func hold(t *testing.T, what string, r *Ring, s *spelled, addrs ...int) {
	t.Helper()
	wantList(t, what, r, s.list()...)
	for _, a := range addrs {
		val, ok := s.last(a)
		wantLast(t, what, r, a, val, ok)
	}
}

// drain pops r and s to the end, and twice beyond it.
func drain(t *testing.T, what string, r *Ring, s *spelled) {
	t.Helper()
	for range len(s.list()) + 2 {
		want, ok := s.pop()
		wantPop(t, what, r, want, ok)
	}
	wantList(t, what, r)
}

func TestP1201Example(t *testing.T) {
	r := of(entry(1, 5), entry(1, 7))
	wantLast(t, "the example", r, 1, 7, true)
	wantPop(t, "the example", r, entry(1, 5), true)
	wantList(t, "the example", r, entry(1, 7))
}

func TestP1201New(t *testing.T) {
	r := New()
	if r == nil {
		t.Fatal("New answers nil")
	}
	other := New()
	r.Push(entry(1, 5))
	wantList(t, "another new one", other)
	wantList(t, "a new one, behind a Push", New())
	wantList(t, "the one that was pushed into", r, entry(1, 5))
}

func TestP1201Empty(t *testing.T) {
	emptied := of(entry(1, 5), entry(2, 6), entry(1, 7))
	for range 3 {
		emptied.Pop()
	}
	for what, r := range map[string]*Ring{"new": New(), "zero": new(Ring), "emptied": emptied, "copied": New().Copy()} {
		for range 3 {
			wantPop(t, what, r, entry(0, 0), false)
			wantList(t, what, r)
			for _, a := range []int{0, 1, 2, -1, math.MinInt, math.MaxInt} {
				wantLast(t, what, r, a, 0, false)
			}
		}
		r.Push(entry(3, 8))
		wantList(t, what+", pushed", r, entry(3, 8))
		wantLast(t, what+", pushed", r, 3, 8, true)
		wantPop(t, what+", pushed", r, entry(3, 8), true)
		wantPop(t, what+", pushed and popped", r, entry(0, 0), false)
	}
}

func TestP1201Mixed(t *testing.T) {
	r := of(entry(1, 5), entry(2, 6), entry(1, 7))
	wantList(t, "three", r, entry(1, 5), entry(2, 6), entry(1, 7))
	wantPop(t, "three", r, entry(1, 5), true)
	wantList(t, "two", r, entry(2, 6), entry(1, 7))
	r.Push(entry(2, 9))
	wantLast(t, "three again", r, 2, 9, true)
	wantPop(t, "three again", r, entry(2, 6), true)
	wantPop(t, "two again", r, entry(1, 7), true)
	r.Push(entry(3, 10))
	wantList(t, "at last", r, entry(2, 9), entry(3, 10))
	wantPop(t, "at last", r, entry(2, 9), true)
	wantPop(t, "one", r, entry(3, 10), true)
	wantPop(t, "none", r, entry(0, 0), false)
}

func TestP1201SameEntryTwice(t *testing.T) {
	e := entry(4, 4)
	r := of(e, e, entry(1, 1), e)
	wantList(t, "thrice", r, e, e, entry(1, 1), e)
	wantPop(t, "the first", r, e, true)
	wantList(t, "behind the first", r, e, entry(1, 1), e)
	wantPop(t, "the second", r, e, true)
	wantLast(t, "one is left", r, 4, 4, true)
	wantPop(t, "the other", r, entry(1, 1), true)
	wantPop(t, "the third", r, e, true)
	wantLast(t, "none is left", r, 4, 0, false)
}

func TestP1201Last(t *testing.T) {
	r := of(entry(1, 5), entry(1, 6), entry(2, 0), entry(3, -1))
	for a, want := range map[int]int64{1: 6, 2: 0, 3: -1} {
		wantLast(t, "four", r, a, want, true)
	}
	for _, a := range []int{0, 4, -1, -2, 1 + 1<<32, 1 - 1<<32, math.MinInt, math.MaxInt} {
		wantLast(t, "four", r, a, 0, false)
	}
	r.Pop()
	wantLast(t, "the elder one has gone", r, 1, 6, true)
	r.Pop()
	wantLast(t, "both have gone", r, 1, 0, false)
	wantLast(t, "both have gone", r, 2, 0, true)
	r.Push(entry(1, 7))
	wantLast(t, "a new one is there", r, 1, 7, true)
	r.Pop()
	wantLast(t, "a Val of 0 has gone", r, 2, 0, false)
	wantList(t, "Last changes nothing", r, entry(3, -1), entry(1, 7))
}

func TestP1201Ends(t *testing.T) {
	var all []api.Entry
	for i, a := range []int{0, -1, 1, math.MinInt, math.MaxInt, math.MinInt32, math.MaxInt32, 1 << 32} {
		for _, v := range []int64{0, -1, math.MinInt64, math.MaxInt64, 1 << 32, int64(i)} {
			all = append(all, entry(a, v))
		}
	}
	r, s := New(), &spelled{}
	for _, e := range all {
		r.Push(e)
		s.pushed = append(s.pushed, e)
		wantLast(t, "pushed", r, e.Addr, e.Val, true)
	}
	for range all {
		hold(t, "ends", r, s, 0, -1, 1, 2, -2, math.MinInt, math.MaxInt, math.MinInt32, math.MaxInt32, 1<<32, 1<<33)
		want, ok := s.pop()
		wantPop(t, "ends", r, want, ok)
	}
	drain(t, "ends", r, s)
}

// TestP1201ManyAhead pushes so many ahead of the first Pop; behind that it fills the same Ring again.
func TestP1201ManyAhead(t *testing.T) {
	for _, n := range []int{1, 2, 3, 4, 5, 7, 8, 9, 15, 16, 17, 31, 32, 33, 255, 256, 257, 700} {
		r, s := New(), &spelled{}
		for round := range 3 {
			for i := range n {
				e := entry(i%11, int64(round*n+i))
				r.Push(e)
				s.pushed = append(s.pushed, e)
			}
			for i := range n {
				if n < 300 || i%50 == 0 {
					hold(t, "many", r, s, -1, 0, 5, 10, 11)
				}
				want, ok := s.pop()
				wantPop(t, "many", r, want, ok)
			}
			wantPop(t, "all popped", r, entry(0, 0), false)
			wantList(t, "all popped", r)
		}
	}
}

// TestP1201FewAtATime lets few wait at a time, over thousands of calls; the row must not grow by what has gone.
func TestP1201FewAtATime(t *testing.T) {
	for few := range 9 {
		r, s := New(), &spelled{}
		for i := range 5000 {
			e := entry(i%5, int64(i))
			r.Push(e)
			s.pushed = append(s.pushed, e)
			if i >= few {
				want, ok := s.pop()
				wantPop(t, "few", r, want, ok)
			}
			hold(t, "few", r, s, 0, 3, 5)
		}
		if cap(r.row) > 64 {
			t.Errorf("%d wait, and there is room for %d", few, cap(r.row))
		}
		drain(t, "few", r, s)
	}
}

// TestP1201GivesBack pops nearly all of many: what is kept is no more than what still waits needs.
func TestP1201GivesBack(t *testing.T) {
	r := New()
	for i := range 100000 {
		r.Push(entry(i, 1))
	}
	for range 99990 {
		r.Pop()
	}
	if r.Len() != 10 || cap(r.row) > 64 {
		t.Errorf("%d wait, not 10, and there is room for %d", r.Len(), cap(r.row))
	}
	for range 10 {
		r.Pop()
	}
	if r.Len() != 0 || cap(r.row) > 0 {
		t.Errorf("%d wait, not 0, and there is room for %d", r.Len(), cap(r.row))
	}
}

func TestP1201Copy(t *testing.T) {
	r := of(entry(1, 5), entry(2, 6), entry(1, 7))
	r.Pop()
	c := r.Copy()
	wantList(t, "the copy", c, entry(2, 6), entry(1, 7))
	r.Push(entry(3, 1))
	wantList(t, "the copy, behind a Push", c, entry(2, 6), entry(1, 7))
	wantLast(t, "the copy, behind a Push", c, 3, 0, false)
	c.Push(entry(4, 2))
	wantList(t, "the first one, behind the copy's Push", r, entry(2, 6), entry(1, 7), entry(3, 1))
	wantPop(t, "the copy", c, entry(2, 6), true)
	wantPop(t, "the copy", c, entry(1, 7), true)
	wantList(t, "the first one, behind the copy's Pops", r, entry(2, 6), entry(1, 7), entry(3, 1))
	for range 3 {
		r.Pop()
	}
	wantList(t, "the copy, behind all Pops", c, entry(4, 2))
	r.Push(entry(9, 9))
	wantPop(t, "the copy, at last", c, entry(4, 2), true)
	wantPop(t, "the copy, at last", c, entry(0, 0), false)
	wantList(t, "the first one, at last", r, entry(9, 9))
}

// TestP1201CopiesPush pushes into both at each length, where one of them may have room that the other sees.
func TestP1201CopiesPush(t *testing.T) {
	for n := range 70 {
		for popped := range min(n, 3) + 1 {
			r, s := New(), &spelled{}
			for i := range n {
				r.Push(entry(i, int64(i)))
				s.pushed = append(s.pushed, entry(i, int64(i)))
			}
			for range popped {
				r.Pop()
				s.pop()
			}
			copies, wants := []*Ring{r, r.Copy(), r.Copy()}, []*spelled{s, s.copy(), s.copy()}
			copies, wants = append(copies, copies[1].Copy()), append(wants, s.copy())
			for i, c := range copies {
				c.Push(entry(-1, int64(i)))
				wants[i].pushed = append(wants[i].pushed, entry(-1, int64(i)))
			}
			for i, c := range copies {
				hold(t, "copies", c, wants[i], -1, 0, n-1)
			}
		}
	}
}

// TestP1201ListIsOnesOwn writes over what List has answered, and adds to it.
func TestP1201ListIsOnesOwn(t *testing.T) {
	for n := 1; n < 40; n++ {
		for popped := range min(n, 3) {
			r, s := New(), &spelled{}
			for i := range n {
				r.Push(entry(i, int64(i)))
				s.pushed = append(s.pushed, entry(i, int64(i)))
			}
			for range popped {
				r.Pop()
				s.pop()
			}
			first, second := r.List(), r.List()
			added := append(first, entry(77, 77))
			r.Push(entry(n, 5))
			if added[len(added)-1] != entry(77, 77) {
				t.Fatal("a Push has written into a list that was answered")
			}
			if !slices.Equal(second, s.list()) {
				t.Fatalf("a list that was answered is %v, not %v", second, s.list())
			}
			s.pushed = append(s.pushed, entry(n, 5))
			for _, list := range [][]api.Entry{first, added} {
				for i := range list {
					list[i] = entry(88, 88)
				}
			}
			if !slices.Equal(second, s.list()[:n-popped]) {
				t.Fatal("a list was written over, and another one has changed")
			}
			hold(t, "written over", r, s, 77, 88, 0, n-1, n)
			drain(t, "written over", r, s)
			if first[0] != entry(88, 88) {
				t.Fatal("Pop has written into a list that was answered")
			}
		}
	}
}

// TestP1201AllRows goes through all rows of so many calls; each branch goes on with a copy, while the Ring that it was copied from serves the others.
func TestP1201AllRows(t *testing.T) {
	moves := []int{0, 1, 2}
	var branch func(r *Ring, s *spelled, left int)
	branch = func(r *Ring, s *spelled, left int) {
		hold(t, "all rows", r, s, 0, 1, 2)
		if left == 0 {
			drain(t, "all rows", r, s)
			return
		}
		for _, m := range moves {
			c, w := r.Copy(), s.copy()
			if m == 2 {
				want, ok := w.pop()
				wantPop(t, "all rows", c, want, ok)
			} else {
				c.Push(entry(m, int64(left)))
				w.pushed = append(w.pushed, entry(m, int64(left)))
			}
			branch(c, w, left-1)
			hold(t, "all rows, turned back", r, s, 0, 1, 2)
		}
	}
	branch(New(), &spelled{}, 8)
}

// TestP1201Jumbled makes calls by a fixed rule, now more Pushes than Pops, now fewer, on two Rings that take copies of each other.
func TestP1201Jumbled(t *testing.T) {
	rings, wants := []*Ring{New(), New()}, []*spelled{{}, {}}
	seed := uint64(1)
	next := func(n int) int {
		seed = seed*6364136223846793005 + 1442695040888963407
		return int(seed>>33) % n
	}
	addrs := []int{0, 1, 2, 3, -1, math.MinInt, math.MaxInt}
	for i := range 40000 {
		r, s := rings[i%2], wants[i%2]
		switch bias := i / 1000 % 4 * 15; {
		case next(300) == 0:
			rings[1-i%2], wants[1-i%2] = r.Copy(), s.copy()
		case next(100) < 25+bias:
			want, ok := s.pop()
			wantPop(t, "jumbled", r, want, ok)
		default:
			e := entry(addrs[next(len(addrs))], int64(next(1000))-500)
			r.Push(e)
			s.pushed = append(s.pushed, e)
		}
		if i%10 < 2 {
			hold(t, "jumbled", rings[0], wants[0], addrs...)
			hold(t, "jumbled", rings[1], wants[1], addrs...)
		}
		if t.Failed() {
			t.Fatalf("behind %d calls", i)
		}
	}
}

func TestP1202Nil(t *testing.T) {
	var r *Ring
	for range 2 {
		r.Push(entry(1, 5))
		wantPop(t, "nil", r, entry(0, 0), false)
		wantList(t, "nil", r)
		for _, a := range []int{0, 1, -1, math.MinInt, math.MaxInt} {
			wantLast(t, "nil", r, a, 0, false)
		}
		if c := r.Copy(); c != nil {
			t.Errorf("Copy of nil is %v", c.List())
		}
	}
	wantList(t, "a new one, behind a Push into nil", New())
	if New().Copy() == nil {
		t.Error("Copy of an empty one is nil")
	}
}
