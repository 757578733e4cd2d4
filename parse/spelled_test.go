package parse

import (
	"slices"
	"strings"
	"testing"

	"paling/api"
	"paling/lex"
	"paling/show"
	"paling/valid"
)

// piece is a token of a text whose tokens have blanks between them, all of them ASCII.
type piece struct {
	text, class string
	line, col   int
}

func (p piece) told(code api.Code) api.Fault {
	return api.Fault{Code: code, Line: p.line, Col: p.col}
}

var classes = map[string]string{
	"reg": "rax rbx rcx rdx rsi rdi r8 r9", "alu": "add sub and or xor", "mov": "mov cmp", "xchg": "xchg", "cmpxchg": "cmpxchg",
	"jump": "jmp je jne jl jle jg jge jb jbe ja jae", "sole": "mfence nop hlt",
	"sym": "sym", "thread": "thread", "lock": "lock", ",": ",", "[": "[", "]": "]", ":": ":",
}

func classOf(text string) string {
	for class, words := range classes {
		if slices.Contains(strings.Fields(words), text) {
			return class
		}
	}
	if strings.ContainsAny(text[:1], "-0123456789") {
		return "num"
	}
	return "name"
}

func pieces(line string, n int) []piece {
	var out []piece
	col := 1
	for _, f := range strings.Split(line, " ") {
		if f != "" {
			out = append(out, piece{text: f, class: classOf(f), line: n, col: col})
		}
		col += len(f) + 1
	}
	return append(out, piece{class: "end", line: n, col: len(line) + 1})
}

// paths tell which states follow each state of a line, by the class that stands there; ErrForm is told of all others.
var paths = map[string]map[string]string{
	"name":   {"name": "size"},
	"size":   {"num": "init"},
	"init":   {"num": "init", "end": "done"},
	"body":   {"lock": "locked", "mov": "A", "alu": "A", "xchg": "A", "jump": "to", "sole": "close", "end": "done"},
	"locked": {"alu": "A", "cmpxchg": "A"},
	"to":     {"name": "close"},
	"A":      {"num": ",", "reg": ",", "name": "A["},
	"A[":     {"[": "Acell"},
	"Acell":  {"num": "A]", "reg": "A]"},
	"A]":     {"]": ","},
	",":      {",": "B"},
	"B":      {"num": "close", "reg": "close", "name": "B["},
	"B[":     {"[": "Bcell"},
	"Bcell":  {"num": "B]", "reg": "B]"},
	"B]":     {"]": "close"},
	"close":  {"end": "done"},
}

// pairs are the operands of chapter 7's rows: r is a register, n a number, m memory.
var pairs = map[string]string{"mov": "rr rn rm mr mn", "alu": "rr rn rm mr mn", "lock alu": "mr mn", "xchg": "mr", "lock cmpxchg": "mr"}

// spelledThread is what the faults of a thread hang on.
type spelledThread struct {
	word    piece
	words   []piece // the first word of each instruction
	last    string
	aims    []piece
	labels  []string
	pending bool
}

// spelled is what a text has said so far: the sizes of its symbols, and its threads.
type spelled struct {
	sizes   map[string]int64
	threads []*spelledThread
}

// spelledFault is P1001 to P1003 of a text of pieces, by states and classes.
func spelledFault(s string) api.Fault {
	sp := spelled{sizes: map[string]int64{}}
	for n, line := range strings.Split(s, "\n") {
		if fault := sp.line(pieces(line, n+1)); fault.Code != api.OK {
			return fault
		}
	}
	for _, t := range sp.threads {
		if fault := t.fault(); fault.Code != api.OK {
			return fault
		}
	}
	return api.Fault{}
}

func (t *spelledThread) fault() api.Fault {
	if t.pending || t.last != "jmp" && t.last != "hlt" {
		return t.word.told(api.ErrEnd)
	}
	left := api.MaxIns
	for _, w := range t.words {
		if w.text == "mfence" {
			continue
		}
		if left == 0 {
			return w.told(api.ErrMany)
		}
		left--
	}
	for _, aim := range t.aims {
		if !slices.Contains(t.labels, aim.text) {
			return aim.told(api.ErrNone)
		}
	}
	return api.Fault{}
}

func (sp *spelled) line(ps []piece) api.Fault {
	first := ps[0]
	switch {
	case first.class == "end":
		return api.Fault{}
	case first.class == "sym" && len(sp.threads) > 0:
		return first.told(api.ErrForm)
	case first.class == "sym" && len(sp.sizes) == api.MaxSyms:
		return first.told(api.ErrMany)
	case first.class == "sym":
		return sp.walk("name", ps[1:])
	case first.class == "thread" && len(sp.threads) == api.MaxThreads:
		return first.told(api.ErrMany)
	case first.class == "thread":
		sp.threads = append(sp.threads, &spelledThread{word: first})
		return sp.walk("close", ps[1:])
	case len(sp.threads) == 0:
		return first.told(api.ErrForm)
	}
	t := sp.threads[len(sp.threads)-1]
	for len(ps) > 1 && ps[1].class == ":" && strings.ContainsAny(ps[0].text[:1], "abcdefghijklmnopqrstuvwxyz") {
		if ps[0].class != "name" {
			return ps[0].told(api.ErrName)
		}
		if slices.Contains(t.labels, ps[0].text) {
			return ps[0].told(api.ErrDup)
		}
		t.labels = append(t.labels, ps[0].text)
		t.pending = true
		ps = ps[2:]
	}
	if ps[0].class != "end" {
		t.words = append(t.words, ps[0])
		t.pending = false
		t.last = ps[0].text
	}
	return sp.walk("body", ps)
}

// walk goes through the pieces of a line by the paths from that state on.
func (sp *spelled) walk(state string, ps []piece) api.Fault {
	row, shape, name := "", "", ""
	left := int64(0)
	var operand piece
	for _, p := range ps {
		next, ok := paths[state][p.class]
		if !ok {
			isWord := p.text != "" && strings.ContainsAny(p.text[:1], "abcdefghijklmnopqrstuvwxyz")
			if isWord && slices.Contains([]string{"name", "to", "A", "B"}, state) {
				return p.told(api.ErrName)
			}
			return p.told(api.ErrForm)
		}
		n := numberOf(p)
		switch state {
		case "name":
			if _, has := sp.sizes[p.text]; has {
				return p.told(api.ErrDup)
			}
			name = p.text
		case "size":
			if n < 1 || n > 64 {
				return p.told(api.ErrSize)
			}
			sp.sizes[name], left = n, n
		case "init":
			if p.class == "num" && left == 0 {
				return p.told(api.ErrSize)
			}
			left--
		case "body", "locked":
			row = strings.TrimSpace(row + " " + p.class)
		case "to":
			t := sp.threads[len(sp.threads)-1]
			t.aims = append(t.aims, p)
		case "A", "B":
			operand, name = p, p.text
			if _, has := sp.sizes[name]; p.class == "name" && !has {
				return p.told(api.ErrNone)
			}
		case "Acell", "Bcell":
			if p.class == "num" && (n < 0 || n >= sp.sizes[name]) {
				return p.told(api.ErrPlace)
			}
		}
		if next == "," || state[0] == 'B' && next == "close" {
			shape += map[string]string{"num": "n", "reg": "r", "name": "m"}[operand.class]
			if !strings.Contains(" "+pairs[row], " "+shape) {
				return operand.told(api.ErrForm)
			}
		}
		state = next
	}
	return api.Fault{}
}

// numberOf is what the pieces of these tests say that are numbers: none has more than two digits.
func numberOf(p piece) int64 {
	if p.class != "num" {
		return 0
	}
	digits, minus := strings.CutPrefix(p.text, "-")
	n := int64(0)
	for _, d := range digits {
		n = 10*n + int64(d-'0')
	}
	if minus {
		return -n
	}
	return n
}

// flat has the tokens of a text without the ends of its lines.
func flat(s string) []string {
	tokens, _ := lex.Tokens(s)
	var out []string
	for _, t := range tokens {
		if t.Kind != api.TEnd {
			out = append(out, t.Text)
		}
	}
	return out
}

// wantSpelled holds Parse against the second spelling; what is read must say the very tokens of the text, and be read again. It tells whether s was read.
func wantSpelled(t *testing.T, s string) bool {
	t.Helper()
	want := spelledFault(s)
	p, fault := Parse(s)
	if fault != want {
		t.Fatalf("Parse(%q): %v, not %v", s, fault, want)
	}
	if fault.Code != api.OK {
		if p.Syms != nil || p.Threads != nil {
			t.Fatalf("Parse(%q): a program beside %v", s, fault)
		}
		return false
	}
	if code := valid.Check(p); code != api.OK {
		t.Fatalf("Parse(%q) may not be: %d", s, code)
	}
	again := show.Prog(p)
	if !slices.Equal(flat(again), flat(s)) {
		t.Fatalf("Parse(%q) says %q", s, again)
	}
	q, fault := Parse(again)
	if fault.Code != api.OK || !valid.Same(p, q) {
		t.Fatalf("Parse(%q), which Parse(%q) says: %v %v", again, s, q, fault)
	}
	return true
}

func alphabet() []string {
	return strings.Fields("sym thread lock rax r9 mov cmp add xor xchg cmpxchg jmp jbe mfence hlt x y z top 0 1 2 -1 , [ ] :")
}

func TestP1002AllShortLines(t *testing.T) {
	words := append(alphabet(), "")
	for _, a := range words {
		for _, b := range words {
			for _, c := range words {
				line := a + " " + b + " " + c
				wantSpelled(t, line)
				wantSpelled(t, "sym x 2\nsym y 1\nthread\n"+line+"\ntop : hlt")
				wantSpelled(t, "sym "+line)
				wantSpelled(t, "sym x 2\nsym q "+line)
				wantSpelled(t, "sym x 2\nthread\nmov x [ "+line+"\nhlt")
				wantSpelled(t, "sym x 2\nthread\nlock add x [ "+line+"\nhlt")
				wantSpelled(t, "sym x 2\nthread\nxor rax , "+line+"\njmp top\ntop : hlt")
			}
		}
	}
}

// rightLines are bodies of threads, of which each may stand alone.
func rightLines() []string {
	return []string{
		"top : mov x [ 0 ] , -1", "mov rax , x [ r9 ]", "cmp rax , y [ 0 ]", "cmp y [ rax ] , r9", "add x [ 1 ] , rax", "xor r9 , 12", "sub r9 , r8",
		"lock and x [ rbx ] , 1", "lock or y [ 0 ] , r9", "xchg x [ 1 ] , rax", "lock cmpxchg y [ rcx ] , rdx", "x : y : mfence", "nop", "hlt", "jmp b", "jge b", "a :", "",
	}
}

func TestP1002EveryTokenTurned(t *testing.T) {
	read := 0
	for _, line := range rightLines() {
		for k := range len(strings.Fields(line)) + 1 {
			for _, w := range append(alphabet(), "") {
				for _, drop := range []int{0, 1, 2} {
					tokens := strings.Fields(line)
					tokens = slices.Replace(tokens, k, min(k+drop, len(tokens)), w)
					if wantSpelled(t, "sym x 2 5\nsym y 1\nthread\n"+strings.Join(tokens, " ")+"\nb : hlt\nthread\nhlt") {
						read++
					}
				}
			}
		}
	}
	if read < 300 {
		t.Errorf("there were %d that are read alone", read)
	}
}

// dice are numbers that seem to follow no rule, the same in each run.
type dice uint64

func (d *dice) roll(n int) int {
	*d = *d*6364136223846793005 + 1442695040888963407
	return int(uint64(*d)>>33) % n
}

// jumbled is a text of several lines, most of which are right.
func jumbled(d *dice) string {
	syms := []string{"sym x 2", "sym y 1 -7", "sym z 2 1 2", "sym y 3"}
	var lines []string
	for range d.roll(4) {
		lines = append(lines, syms[d.roll(len(syms))])
	}
	bodies := append(rightLines(), "b : nop", "b :", "jl top", "mov z [ 1 ] , rax", "xchg z [ 2 ] , rax", "top : hlt")
	for range d.roll(4) {
		lines = append(lines, "thread")
		for range d.roll(5) {
			lines = append(lines, bodies[d.roll(len(bodies))])
		}
		lines = append(lines, []string{"hlt", "b : hlt", "jmp b", "a : b : jmp a", "je b", "top : hlt\nb :", ""}[d.roll(7)])
	}
	if len(lines) > 0 && d.roll(4) == 0 {
		k := d.roll(len(lines))
		tokens := strings.Fields(lines[k])
		from := d.roll(len(tokens) + 1)
		tokens = slices.Replace(tokens, from, min(from+d.roll(2), len(tokens)), alphabet()[d.roll(len(alphabet()))])
		lines[k] = strings.Repeat(" ", d.roll(3)) + strings.Join(tokens, " ")
	}
	return strings.Join(lines, "\n")
}

func TestP1003Jumbled(t *testing.T) {
	d := dice(10)
	codes := map[api.Code]int{}
	for range 60000 {
		s := jumbled(&d)
		wantSpelled(t, s)
		_, fault := Parse(s)
		codes[fault.Code]++
	}
	for _, code := range []api.Code{api.OK, api.ErrName, api.ErrForm, api.ErrSize, api.ErrDup, api.ErrNone, api.ErrPlace, api.ErrEnd} {
		if codes[code] < 20 {
			t.Errorf("code %d was told %d times alone", code, codes[code])
		}
	}
}

// program is one that may be, with names, numbers, labels and operands of all kinds.
func program(d *dice) api.Prog {
	names := []string{"x", "y", "été", "_1", "abcdefghijklmnop", "Mov"}
	var p api.Prog
	for n := range d.roll(4) {
		s := api.Sym{Name: names[n], Size: 1 + d.roll(64)>>d.roll(6)}
		for range d.roll(s.Size + 1) {
			s.Init = append(s.Init, int64(d.roll(9)-4)<<d.roll(62))
		}
		p.Syms = append(p.Syms, s)
	}
	for range d.roll(4) {
		p.Threads = append(p.Threads, api.Thread{Ins: instructions(d, p.Syms, names)})
	}
	return p
}

func instructions(d *dice, syms []api.Sym, names []string) []api.Ins {
	labels := names[:d.roll(len(names)+1)]
	list := []api.Ins{}
	for range d.roll(6) {
		list = append(list, instruction(d, syms, labels))
	}
	list = append(list, hlt)
	if len(labels) > 0 && d.roll(2) == 0 {
		list[len(list)-1] = jmp(labels[d.roll(len(labels))])
	}
	for _, l := range labels {
		i := &list[d.roll(len(list))]
		i.Labels = append(slices.Clone(i.Labels), l)
	}
	return list
}

func instruction(d *dice, syms []api.Sym, labels []string) api.Ins {
	reg := func() api.Opd { return api.Opd{Kind: api.KReg, Reg: d.roll(8)} }
	plain := func() api.Opd { return []api.Opd{reg(), imm(int64(d.roll(9)-4) << d.roll(62))}[d.roll(2)] }
	list := []api.Ins{nop, hlt, {Op: api.Mfence}, op(1+d.roll(7), reg(), plain())}
	if len(labels) > 0 {
		list = append(list, jmp(labels[d.roll(len(labels))]), jcc(1+d.roll(10), labels[d.roll(len(labels))]))
	}
	if len(syms) > 0 {
		k := d.roll(len(syms))
		memory := func() api.Opd { return []api.Opd{at(k, int64(d.roll(syms[k].Size))), by(k, d.roll(8))}[d.roll(2)] }
		list = append(list, op(1+d.roll(7), reg(), memory()), op(1+d.roll(7), memory(), plain()),
			lock(op(2+d.roll(5), memory(), plain())), op(api.Xchg, memory(), reg()), lock(op(api.Cmpxchg, memory(), reg())))
	}
	return list[d.roll(len(list))]
}

func TestP1004ProgramsAndBack(t *testing.T) {
	d := dice(4)
	for range 20000 {
		p := program(&d)
		if code := valid.Check(p); code != api.OK {
			t.Fatalf("%v may not be: %d", p, code)
		}
		q, fault := Parse(show.Prog(p))
		if fault != (api.Fault{}) || !valid.Same(p, q) {
			t.Fatalf("Parse(%q): %v %v", show.Prog(p), q, fault)
		}
	}
}

func TestP1004NothingPanics(t *testing.T) {
	d := dice(7)
	bytes := []byte("sym x 1\nthread a:[],;-0\t\xc3\xa9\xff$lockmvd")
	for range 50000 {
		var b []byte
		for range d.roll(30) {
			b = append(b, bytes[d.roll(len(bytes))])
		}
		p, fault := Parse(string(b))
		if fault.Code == api.OK && (fault != api.Fault{} || valid.Check(p) != api.OK) {
			t.Fatalf("Parse(%q): %v %v", b, p, fault)
		}
		if fault.Code != api.OK && (p.Syms != nil || p.Threads != nil || fault.Line < 1 || fault.Col < 1) {
			t.Fatalf("Parse(%q): %v %v", b, p, fault)
		}
	}
}
