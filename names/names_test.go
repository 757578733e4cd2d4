package names

import (
	"math"
	"strings"
	"testing"
	"unicode/utf8"

	"paling/api"
)

// regWords are the document's words of the registers, from 0 on.
const regWords = "rax rbx rcx rdx rsi rdi r8 r9"

// opWords are the document's words of what instructions do, in api's order, without those of Jcc.
const opWords = "mov add sub and or xor cmp xchg cmpxchg jmp mfence nop hlt"

// jumpWords are the document's words of Jcc, in the order of the conditions.
const jumpWords = "je jne jl jle jg jge jb jbe ja jae"

const plainWords = "sym thread lock"

// opsOf are the numbers of opWords.
var opsOf = []int{
	api.Mov, api.Add, api.Sub, api.And, api.Or, api.Xor, api.Cmp, api.Xchg, api.Cmpxchg, api.Jmp,
	api.Mfence, api.Nop, api.Hlt,
}

// condsOf are the numbers of jumpWords.
var condsOf = []int{api.E, api.Ne, api.L, api.Le, api.G, api.Ge, api.B, api.Be, api.A, api.Ae}

func words() []string {
	return strings.Fields(plainWords + " " + regWords + " " + opWords + " " + jumpWords)
}

func isWord(s string) bool {
	for _, w := range words() {
		if w == s {
			return true
		}
	}
	return false
}

// near are texts that are almost words: with a letter or a byte more, less or other, in capitals, two in one.
func near() []string {
	all := []string{"", " ", "\n", "r", "r0", "r1", "r7", "r10", "j", "jc", "jz", "jnz", "jo", "jp", "js", "lea", "inc", "test", "eax", "rsp", "rbp", "jcc", "fence", "lfence", "symbol"}
	for _, w := range words() {
		all = append(all, strings.ToUpper(w), strings.ToUpper(w[:1])+w[1:], w+"s", "s"+w, w+" ", " "+w, w+"\n", w+"\x00", w+"\xff", w+w, w+"1", "_"+w, w+"\u0301")
		for i := range w {
			all = append(all, w[:i], w[i+1:], w[:i]+w[i+1:], w[:i]+"\u00e9"+w[i+1:], w[:i]+"\xff"+w[i+1:])
		}
	}
	return all
}

func wantRight(t *testing.T, s string, want bool) {
	t.Helper()
	if got := Right(s); got != want {
		t.Errorf("Right(%q): %v, not %v", s, got, want)
	}
}

func wantReg(t *testing.T, s string, reg int, ok bool) {
	t.Helper()
	if r, k := Reg(s); r != reg || k != ok {
		t.Errorf("Reg(%q): %d %v, not %d %v", s, r, k, reg, ok)
	}
}

func wantOp(t *testing.T, s string, op, cond int, ok bool) {
	t.Helper()
	if o, c, k := Op(s); o != op || c != cond || k != ok {
		t.Errorf("Op(%q): %d %d %v, not %d %d %v", s, o, c, k, op, cond, ok)
	}
}

func wantOpText(t *testing.T, op, cond int, want string) {
	t.Helper()
	if got := OpText(op, cond); got != want {
		t.Errorf("OpText(%d, %d): %q, not %q", op, cond, got, want)
	}
}

func TestP401EachWordIsOneAndNoName(t *testing.T) {
	for _, w := range words() {
		if !Word(w) {
			t.Errorf("Word(%q): false", w)
		}
		wantRight(t, w, false)
	}
}

func TestP401WordsByteForByte(t *testing.T) {
	for _, s := range near() {
		if got := Word(s); got != isWord(s) {
			t.Errorf("Word(%q): %v", s, got)
		}
	}
}

func TestP401RightOfExamples(t *testing.T) {
	wantRight(t, "x1", true)
	wantRight(t, "mov", false)
	wantRight(t, "1x", false)
	wantRight(t, "\u00e9t\u00e9", true)
}

func TestP401RightTakesNames(t *testing.T) {
	for _, s := range []string{
		"x", "X", "_", "z9", "a0b1c2", "_1", "Z_", "r0", "r10", "jz", "Mov", "MOV", "RAX", "Sym", "movs", "mo", "lock1", "hltx",
		"\u00a1", "\u00ff", "\u4e2d", "x\u4e2d1", "\U0001F600", "\U0010FFFF", "\ufffd", "x\ufffd", "\u0663", "x\u0663", "\u2003",
	} {
		wantRight(t, s, true)
	}
}

func TestP401RightRefuses(t *testing.T) {
	for _, s := range []string{
		"", "0", "9", "0x", "9_", "12",
		" ", "x ", " x", "x y", "x\ty", "x\n", "\nx", "x\r", "x\x00", "\x00",
		"x-1", "-x", "x[", "x]", "x:", "x,", "x.y", "$x", "x@", "x`", "x{", "x/", "x;", "x#", "x^", "x\x7f",
		"\u0080", "x\u0080", "\u00a0", "x\u00a0", "x\u009f",
		"\xff", "x\xff", "\xffx", "x\xffy", "\x80", "x\xc3", "x\xe2\x82", "x\xf0\x9f\x98", "\xed\xa0\x80", "x\xc0\xaf", "\xf4\x90\x80\x80", "\ufffd\xff",
	} {
		wantRight(t, s, false)
	}
}

func TestP401RightCountsRunes(t *testing.T) {
	for _, letter := range []string{"a", "\u00e9", "\u20ac", "\U0001F600"} {
		for n := range 3 * api.MaxName {
			wantRight(t, strings.Repeat(letter, n), 1 <= n && n <= api.MaxName)
		}
		wantRight(t, letter+strings.Repeat("7", api.MaxName-1), true)
		wantRight(t, letter+strings.Repeat("7", api.MaxName), false)
	}
	wantRight(t, strings.Repeat("a", api.MaxName)+"\xff", false)
	wantRight(t, strings.Repeat("a", api.MaxName-1)+"\xff", false)
	wantRight(t, strings.Repeat("a", api.MaxName-1)+"-", false)
	wantRight(t, strings.Repeat("a", 1<<20), false)
}

// rightBySpelling is Right by the words of the promise, without package glyph.
func rightBySpelling(s string) bool {
	count := utf8.RuneCountInString(s)
	if !utf8.ValidString(s) || count < 1 || count > api.MaxName || isWord(s) {
		return false
	}
	for i, r := range []rune(s) {
		letter := strings.ContainsRune("abcdefghijklmnopqrstuvwxyzABCDEFGHIJKLMNOPQRSTUVWXYZ_", r) || r >= 0xA1
		digit := strings.ContainsRune("0123456789", r)
		if !letter && (!digit || i == 0) {
			return false
		}
	}
	return true
}

func TestP401RightOfShortTexts(t *testing.T) {
	pieces := []string{"r", "8", "j", "e", "o", "_", "Z", " ", "\t", "\n", "-", "\u00a0", "\u00a1", "\u00e9", "\u20ac", "\U0010FFFF", "\ufffd", "\xff", "\x80", "\xc3"}
	row := []string{""}
	for range 4 {
		var longer []string
		for _, s := range row {
			wantRight(t, s, rightBySpelling(s))
			for _, p := range pieces {
				longer = append(longer, s+p)
			}
		}
		row = longer
	}
	for _, s := range near() {
		wantRight(t, s, rightBySpelling(s))
	}
}

func TestP401RightOfEachRune(t *testing.T) {
	for r := rune(0); r <= utf8.MaxRune; r++ {
		if utf8.ValidRune(r) {
			wantRight(t, string(r), rightBySpelling(string(r)))
			wantRight(t, "x"+string(r), rightBySpelling("x"+string(r)))
		}
	}
}

func TestP402Regs(t *testing.T) {
	for r, w := range strings.Fields(regWords) {
		wantReg(t, w, r, true)
		if got := RegText(r); got != w {
			t.Errorf("RegText(%d): %q, not %q", r, got, w)
		}
	}
	wantReg(t, "r8", 6, true)
	wantReg(t, "r9", 7, true)
}

func TestP402NoRegs(t *testing.T) {
	for _, r := range []int{-1, -2, -8, 8, 9, 10, 15, math.MinInt, math.MaxInt} {
		if got := RegText(r); got != "" {
			t.Errorf("RegText(%d): %q", r, got)
		}
	}
	for _, s := range strings.Fields(plainWords + " " + opWords + " " + jumpWords) {
		wantReg(t, s, 0, false)
	}
	for _, s := range near() {
		if !isWord(s) {
			wantReg(t, s, 0, false)
		}
	}
}

func TestP402Ops(t *testing.T) {
	for i, w := range strings.Fields(opWords) {
		wantOp(t, w, opsOf[i], 0, true)
	}
	for i, w := range strings.Fields(jumpWords) {
		wantOp(t, w, api.Jcc, condsOf[i], true)
	}
	wantOp(t, "jne", api.Jcc, api.Ne, true)
}

func TestP402NoOps(t *testing.T) {
	for _, s := range strings.Fields(plainWords + " " + regWords) {
		wantOp(t, s, 0, 0, false)
	}
	for _, s := range near() {
		if !isWord(s) {
			wantOp(t, s, 0, 0, false)
		}
	}
}

// textOf is OpText by the words of the promise.
func textOf(op, cond int) string {
	for i, w := range strings.Fields(opWords) {
		if opsOf[i] == op && cond == 0 {
			return w
		}
	}
	for i, w := range strings.Fields(jumpWords) {
		if op == api.Jcc && condsOf[i] == cond {
			return w
		}
	}
	return ""
}

func TestP402OpTexts(t *testing.T) {
	numbers := []int{math.MinInt, math.MinInt + 1, math.MaxInt - 1, math.MaxInt}
	for n := -40; n <= 40; n++ {
		numbers = append(numbers, n)
	}
	for _, op := range numbers {
		for _, cond := range numbers {
			wantOpText(t, op, cond, textOf(op, cond))
		}
	}
	wantOpText(t, api.Mov, 1, "")
	wantOpText(t, api.Mov, 0, "mov")
	wantOpText(t, api.Hlt, 0, "hlt")
	wantOpText(t, api.Jcc, api.E, "je")
	wantOpText(t, api.Jcc, api.Ae, "jae")
	wantOpText(t, api.Jcc, 0, "")
	wantOpText(t, api.Jcc, api.Ae+1, "")
	wantOpText(t, api.Jcc, -1, "")
}
