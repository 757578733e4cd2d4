package lex

import (
	"math/big"
	"regexp"
	"slices"
	"strings"
	"testing"
	"unicode/utf8"

	"paling/api"
)

func word(line, col int, text string) api.Token {
	return api.Token{Kind: api.TWord, Line: line, Col: col, Text: text}
}

func number(line, col int, text string) api.Token {
	return api.Token{Kind: api.TNum, Line: line, Col: col, Text: text}
}

func sign(line, col int, text string) api.Token {
	return api.Token{Kind: api.TSign, Line: line, Col: col, Text: text}
}

// lineEnd is the TEnd that a byte 10 is.
func lineEnd(line, col int) api.Token {
	return api.Token{Kind: api.TEnd, Line: line, Col: col, Text: "\n"}
}

// textEnd is the TEnd that stands at last.
func textEnd(line, col int) api.Token {
	return api.Token{Kind: api.TEnd, Line: line, Col: col}
}

func shown(s string) string {
	if len(s) > 60 {
		return s[:60] + ".."
	}
	return s
}

func wantTokens(t *testing.T, s string, want ...api.Token) {
	t.Helper()
	got, fault := Tokens(s)
	if fault != (api.Fault{}) || !slices.Equal(got, want) {
		t.Errorf("Tokens(%q): %v %v, not %v", shown(s), got, fault, want)
	}
}

func wantFault(t *testing.T, s string, code api.Code, line, col int) {
	t.Helper()
	want := api.Fault{Code: code, Line: line, Col: col}
	if got, fault := Tokens(s); len(got) != 0 || fault != want {
		t.Errorf("Tokens(%q): %v %v, not %v", shown(s), got, fault, want)
	}
}

func TestP501Examples(t *testing.T) {
	wantTokens(t, "x[1] ; a", word(1, 1, "x"), sign(1, 2, "["), number(1, 3, "1"), sign(1, 4, "]"), textEnd(1, 9))
}

func TestP501Lines(t *testing.T) {
	wantTokens(t, "sym x 2 7 -1 ; two cells\nthread\n\u00e9t\u00e9:\tmov x[rax],-5\n",
		word(1, 1, "sym"), word(1, 5, "x"), number(1, 7, "2"), number(1, 9, "7"), number(1, 11, "-1"), lineEnd(1, 25),
		word(2, 1, "thread"), lineEnd(2, 7),
		word(3, 1, "\u00e9t\u00e9"), sign(3, 4, ":"), word(3, 6, "mov"), word(3, 10, "x"), sign(3, 11, "["), word(3, 12, "rax"), sign(3, 15, "]"), sign(3, 16, ","), number(3, 17, "-5"), lineEnd(3, 19),
		textEnd(4, 1))
}

func TestP501EmptyAndBlankTexts(t *testing.T) {
	wantTokens(t, "", textEnd(1, 1))
	wantTokens(t, " ", textEnd(1, 2))
	wantTokens(t, "\t", textEnd(1, 2))
	wantTokens(t, " \t  \t", textEnd(1, 6))
	wantTokens(t, " \n\t", lineEnd(1, 2), textEnd(2, 2))
}

func TestP501LineEnds(t *testing.T) {
	wantTokens(t, "\n", lineEnd(1, 1), textEnd(2, 1))
	wantTokens(t, "\n\n", lineEnd(1, 1), lineEnd(2, 1), textEnd(3, 1))
	wantTokens(t, "a\n\nb", word(1, 1, "a"), lineEnd(1, 2), lineEnd(2, 1), word(3, 1, "b"), textEnd(3, 2))
	wantTokens(t, "\n a", lineEnd(1, 1), word(2, 2, "a"), textEnd(2, 3))
	wantTokens(t, "1\n2", number(1, 1, "1"), lineEnd(1, 2), number(2, 1, "2"), textEnd(2, 2))
}

func TestP501Remarks(t *testing.T) {
	wantTokens(t, ";", textEnd(1, 2))
	wantTokens(t, ";;", textEnd(1, 3))
	wantTokens(t, "a;b", word(1, 1, "a"), textEnd(1, 4))
	wantTokens(t, "1;2", number(1, 1, "1"), textEnd(1, 4))
	wantTokens(t, ",;,", sign(1, 1, ","), textEnd(1, 4))
	wantTokens(t, "; a\n", lineEnd(1, 4), textEnd(2, 1))
	wantTokens(t, ";\n;\n", lineEnd(1, 2), lineEnd(2, 2), textEnd(3, 1))
	wantTokens(t, "; a\n\nb ; c", lineEnd(1, 4), lineEnd(2, 1), word(3, 1, "b"), textEnd(3, 6))
	wantTokens(t, ";;a; b\nc", lineEnd(1, 7), word(2, 1, "c"), textEnd(2, 2))
}

func TestP501RemarksHoldAnythingThatIsUTF8(t *testing.T) {
	inside := "$\r\x00\x7f\u0080\u00a0 01 -0 12a - abcdefghijklmnopq 9223372036854775808 \ufffd\u20ac\U0001F600\"#"
	runes := utf8.RuneCountInString(inside)
	wantTokens(t, ";"+inside, textEnd(1, runes+2))
	wantTokens(t, "x;"+inside+"\ny", word(1, 1, "x"), lineEnd(1, runes+3), word(2, 1, "y"), textEnd(2, 2))
}

func TestP501Signs(t *testing.T) {
	wantTokens(t, ",[]:", sign(1, 1, ","), sign(1, 2, "["), sign(1, 3, "]"), sign(1, 4, ":"), textEnd(1, 5))
	wantTokens(t, ":: ,,", sign(1, 1, ":"), sign(1, 2, ":"), sign(1, 4, ","), sign(1, 5, ","), textEnd(1, 6))
	wantTokens(t, ",a]b:c[d", sign(1, 1, ","), word(1, 2, "a"), sign(1, 3, "]"), word(1, 4, "b"), sign(1, 5, ":"), word(1, 6, "c"), sign(1, 7, "["), word(1, 8, "d"), textEnd(1, 9))
	wantTokens(t, "[1]-2,3:", sign(1, 1, "["), number(1, 2, "1"), sign(1, 3, "]"), number(1, 4, "-2"), sign(1, 6, ","), number(1, 7, "3"), sign(1, 8, ":"), textEnd(1, 9))
}

func TestP501Words(t *testing.T) {
	for _, w := range []string{"a", "z", "A", "Z", "_", "__", "a1", "_9", "a0b1", "mov", "jne", "MOV", "x_y", "\u00a1", "\u00e9", "a\u00e9", "\u20ac1", "\U0001F600", "\U0010FFFF", "\u0663", "\u2003", "\u2028", "\ufeff", "e\u0301"} {
		n := utf8.RuneCountInString(w)
		wantTokens(t, w, word(1, 1, w), textEnd(1, n+1))
		wantTokens(t, "1 "+w+",", number(1, 1, "1"), word(1, 3, w), sign(1, n+3, ","), textEnd(1, n+4))
	}
}

func TestP501WordsEndAtOtherRunes(t *testing.T) {
	wantFault(t, "a-1$", api.ErrRune, 1, 4)
	wantTokens(t, "a-1", word(1, 1, "a"), number(1, 2, "-1"), textEnd(1, 4))
	wantTokens(t, "a-1-2", word(1, 1, "a"), number(1, 2, "-1"), number(1, 4, "-2"), textEnd(1, 6))
	wantTokens(t, "1-2", number(1, 1, "1"), number(1, 2, "-2"), textEnd(1, 4))
	wantTokens(t, "a b\tc", word(1, 1, "a"), word(1, 3, "b"), word(1, 5, "c"), textEnd(1, 6))
}

func TestP501ColumnsCountRunes(t *testing.T) {
	wantTokens(t, "\u00e9 \u20ac,\U0001F600 7", word(1, 1, "\u00e9"), word(1, 3, "\u20ac"), sign(1, 4, ","), word(1, 5, "\U0001F600"), number(1, 7, "7"), textEnd(1, 8))
	wantTokens(t, "\u00e9\n\u20ac 1\n;\U0001F600", word(1, 1, "\u00e9"), lineEnd(1, 2), word(2, 1, "\u20ac"), number(2, 3, "1"), lineEnd(2, 4), textEnd(3, 3))
}

func TestP501WrittenReplacementIsALetter(t *testing.T) {
	wantTokens(t, "\ufffd", word(1, 1, "\ufffd"), textEnd(1, 2))
	wantTokens(t, "\ufffda\ufffd 1", word(1, 1, "\ufffda\ufffd"), number(1, 5, "1"), textEnd(1, 6))
	wantTokens(t, ";\ufffd", textEnd(1, 3))
	wantFault(t, "1\ufffd", api.ErrNum, 1, 1)
	wantFault(t, "\ufffd\xff", api.ErrRune, 1, 2)
	wantFault(t, "\ufffd \xef\xbf", api.ErrRune, 1, 3)
}

func TestP501Numbers(t *testing.T) {
	for _, n := range []string{"0", "1", "9", "10", "-1", "-9", "-10", "42", "9223372036854775807", "9223372036854775806", "-9223372036854775808", "-9223372036854775807"} {
		wantTokens(t, n, number(1, 1, n), textEnd(1, len(n)+1))
		wantTokens(t, "["+n+"]", sign(1, 1, "["), number(1, 2, n), sign(1, len(n)+2, "]"), textEnd(1, len(n)+3))
	}
}

func TestP501LongTexts(t *testing.T) {
	const many = 1 << 15
	row := strings.Repeat("\u00e9t\u00e9,-12 ;\u20ac\n", many)
	tokens, fault := Tokens(row)
	if fault != (api.Fault{}) || len(tokens) != 4*many+1 {
		t.Fatalf("many lines: %d tokens, %v", len(tokens), fault)
	}
	for i := range many {
		want := []api.Token{word(i+1, 1, "\u00e9t\u00e9"), sign(i+1, 4, ","), number(i+1, 5, "-12"), lineEnd(i+1, 11)}
		if got := tokens[4*i : 4*i+4]; !slices.Equal(got, want) {
			t.Fatalf("line %d of many: %v, not %v", i+1, got, want)
		}
	}
	if got, want := tokens[4*many], textEnd(many+1, 1); got != want {
		t.Errorf("the end of many lines: %v, not %v", got, want)
	}
	wantTokens(t, ";"+strings.Repeat("\u00e9;", many)+"\n,", lineEnd(1, 2*many+2), sign(2, 1, ","), textEnd(2, 2))
	wantTokens(t, strings.Repeat(" ", many)+"a", word(1, many+1, "a"), textEnd(1, many+2))
	wantFault(t, strings.Repeat("a", many), api.ErrName, 1, 1)
	wantFault(t, strings.Repeat("1", many), api.ErrNum, 1, 1)
	wantFault(t, row+"$", api.ErrRune, many+1, 1)
}

func TestP501AnswersAreNew(t *testing.T) {
	first, _ := Tokens("a 1,")
	clear(first)
	clear(first[:cap(first)])
	wantTokens(t, "a 1,", word(1, 1, "a"), number(1, 3, "1"), sign(1, 4, ","), textEnd(1, 5))
}

func TestP502Examples(t *testing.T) {
	wantFault(t, "a $", api.ErrRune, 1, 3)
	wantFault(t, "12a", api.ErrNum, 1, 1)
}

func TestP502BadRunes(t *testing.T) {
	for _, b := range []string{"\xff", "\x80", "\xc3", "\xe2\x82", "\xf0\x9f\x98", "\xc0\x80", "\xed\xa0\x80", "\xf4\x90\x80\x80", "\xef\xbf"} {
		wantFault(t, b, api.ErrRune, 1, 1)
		wantFault(t, "x"+b, api.ErrRune, 1, 2)
		wantFault(t, "x"+b+"y", api.ErrRune, 1, 2)
		wantFault(t, "12"+b+"3", api.ErrRune, 1, 3)
		wantFault(t, "-1"+b, api.ErrRune, 1, 3)
		wantFault(t, "\u00e9 "+b+" 1", api.ErrRune, 1, 3)
		wantFault(t, "a,"+b, api.ErrRune, 1, 3)
		wantFault(t, ";"+b, api.ErrRune, 1, 2)
		wantFault(t, "; \u00e9;"+b+"\n", api.ErrRune, 1, 5)
		wantFault(t, "; a\n;b"+b, api.ErrRune, 2, 3)
		wantFault(t, "a\n\n  "+b, api.ErrRune, 3, 3)
	}
}

func TestP502RunesThatBeginNothing(t *testing.T) {
	for _, r := range "\r\x00\x01\v\f\x1f!\"#$%&'()*+./<=>?@\\^`{|}~\x7f\u0080\u0085\u009f\u00a0" {
		s := string(r)
		wantFault(t, s, api.ErrRune, 1, 1)
		wantFault(t, "a"+s+"b", api.ErrRune, 1, 2)
		wantFault(t, "12"+s, api.ErrRune, 1, 3)
		wantFault(t, "\u00e9 1,"+s+"\n", api.ErrRune, 1, 5)
		wantFault(t, "a\n\t"+s, api.ErrRune, 2, 2)
	}
	wantFault(t, "a\r\n", api.ErrRune, 1, 2)
}

func TestP502LongWords(t *testing.T) {
	for _, letter := range []string{"a", "_", "\u00e9", "\u20ac", "\U0001F600", "\ufffd"} {
		for n := 1; n <= 3*api.MaxName; n++ {
			w := strings.Repeat(letter, n)
			if n <= api.MaxName {
				wantTokens(t, ", "+w+":", sign(1, 1, ","), word(1, 3, w), sign(1, n+3, ":"), textEnd(1, n+4))
			} else {
				wantFault(t, ", "+w+":", api.ErrName, 1, 3)
			}
		}
		full := letter + strings.Repeat("7", api.MaxName-1)
		wantTokens(t, full, word(1, 1, full), textEnd(1, api.MaxName+1))
		wantFault(t, full+"7", api.ErrName, 1, 1)
		wantTokens(t, full+" a", word(1, 1, full), word(1, api.MaxName+2, "a"), textEnd(1, api.MaxName+3))
	}
}

func TestP502WrongNumbers(t *testing.T) {
	for _, n := range []string{"-", "00", "01", "007", "-0", "-00", "-01", "12a", "1_0", "0x1", "1e2", "1\u00e9", "1\u0663", "-a", "-_", "-\u20ac", "9223372036854775808", "-9223372036854775809", "18446744073709551616", "99999999999999999999", "-99999999999999999999", "0abcdefghijklmnopqrs"} {
		wantFault(t, n, api.ErrNum, 1, 1)
		wantFault(t, "a\n\u00e9 "+n+" $", api.ErrNum, 2, 3)
		wantFault(t, "["+n+"]", api.ErrNum, 1, 2)
		wantTokens(t, ";"+n, textEnd(1, utf8.RuneCountInString(n)+2))
	}
	wantFault(t, "- 1", api.ErrNum, 1, 1)
	wantFault(t, "--1", api.ErrNum, 1, 1)
	wantFault(t, "1-", api.ErrNum, 1, 2)
	wantFault(t, "-\n1", api.ErrNum, 1, 1)
	wantFault(t, "+1", api.ErrRune, 1, 1)
}

func TestP502FirstFaultFromTheLeft(t *testing.T) {
	const long = "abcdefghijklmnopq"
	wantFault(t, "$ "+long+" 01 \xff", api.ErrRune, 1, 1)
	wantFault(t, long+" $ 01 \xff", api.ErrName, 1, 1)
	wantFault(t, "01 "+long+" $ \xff", api.ErrNum, 1, 1)
	wantFault(t, "\xff$"+long+" 01", api.ErrRune, 1, 1)
	wantFault(t, long+"\xff", api.ErrName, 1, 1)
	wantFault(t, long+"$", api.ErrName, 1, 1)
	wantFault(t, "01\xff", api.ErrNum, 1, 1)
	wantFault(t, "-\xff", api.ErrNum, 1, 1)
	wantFault(t, "1a\xff", api.ErrNum, 1, 1)
	wantFault(t, "ok 1;\xff\n"+long, api.ErrRune, 1, 6)
	wantFault(t, "ok 1;$\n"+long+"\xff", api.ErrName, 2, 1)
	wantFault(t, long[:16]+"\xff"+long, api.ErrRune, 1, 17)
	wantFault(t, "a\n  01\n$", api.ErrNum, 2, 3)
}

// The pieces of a text that is UTF-8, by the words of the promise.
var (
	wordForm   = regexp.MustCompile("^[a-zA-Z_\u00a1-\U0010ffff][a-zA-Z_\u00a1-\U0010ffff0-9]*")
	numForm    = regexp.MustCompile("^[0-9-][a-zA-Z_\u00a1-\U0010ffff0-9]*")
	signForm   = regexp.MustCompile(`^[,:\[\]]`)
	gapForm    = regexp.MustCompile("^(?:[ \t]|;[^\n]*)")
	plainDigit = regexp.MustCompile("^(?:0|-?[1-9][0-9]*)$")
)

// place is the line and the column of what stands behind ahead.
func place(ahead string) (int, int) {
	lines := strings.Split(ahead, "\n")
	return len(lines), 1 + utf8.RuneCountInString(lines[len(lines)-1])
}

func readable(s string) bool {
	n, _ := new(big.Int).SetString(s, 10)
	return plainDigit.MatchString(s) && n.IsInt64()
}

// firstPiece is the kind and the text of the piece with which s begins, and what is wrong with it.
func firstPiece(s string) (int, string, api.Code) {
	if s[0] == '\n' {
		return api.TEnd, "\n", api.OK
	}
	if m := gapForm.FindString(s); m != "" {
		return 0, m, api.OK
	}
	if m := signForm.FindString(s); m != "" {
		return api.TSign, m, api.OK
	}
	if m := wordForm.FindString(s); m != "" {
		if utf8.RuneCountInString(m) > api.MaxName {
			return 0, "", api.ErrName
		}
		return api.TWord, m, api.OK
	}
	if m := numForm.FindString(s); m != "" {
		if !readable(m) {
			return 0, "", api.ErrNum
		}
		return api.TNum, m, api.OK
	}
	return 0, "", api.ErrRune
}

// whole is the part of s ahead of its first byte that belongs to no UTF-8.
func whole(s string) string {
	for at := range s {
		size := 1
		for size < 4 && at+size <= len(s) && !utf8.ValidString(s[at:at+size]) {
			size++
		}
		if at+size > len(s) || !utf8.ValidString(s[at:at+size]) {
			return s[:at]
		}
	}
	return s
}

// spelled is Tokens by the words of the promises: such a byte ends each piece, and is a fault itself.
func spelled(s string) ([]api.Token, api.Fault) {
	good := whole(s)
	var tokens []api.Token
	for at := 0; at < len(good); {
		line, col := place(good[:at])
		kind, text, code := firstPiece(good[at:])
		if code != api.OK {
			return nil, api.Fault{Code: code, Line: line, Col: col}
		}
		if kind != 0 {
			tokens = append(tokens, api.Token{Kind: kind, Line: line, Col: col, Text: text})
		}
		at += len(text)
	}
	line, col := place(good)
	if good != s {
		return nil, api.Fault{Code: api.ErrRune, Line: line, Col: col}
	}
	return append(tokens, textEnd(line, col)), api.Fault{}
}

// holdBySpelling holds Tokens of s against the words, and tells whether they are one.
func holdBySpelling(t *testing.T, s string) bool {
	t.Helper()
	got, fault := Tokens(s)
	want, wantedFault := spelled(s)
	if fault != wantedFault || !slices.Equal(got, want) {
		t.Errorf("Tokens(%q): %v %v, not %v %v", s, got, fault, want, wantedFault)
		return false
	}
	return true
}

// holdRows holds all texts of up to n of the pieces against the words.
func holdRows(t *testing.T, n int, pieces ...string) {
	t.Helper()
	row := []string{""}
	for range n + 1 {
		var longer []string
		for _, s := range row {
			if !holdBySpelling(t, s) {
				return
			}
			for _, p := range pieces {
				longer = append(longer, s+p)
			}
		}
		row = longer
	}
}

func TestP501P502ShortTextsByTheWords(t *testing.T) {
	holdRows(t, 4, "a", "0", "7", "-", " ", "\n", ";", ",", "$", "\u00e9", "\ufffd", "\xff", "\xe2\x82")
	holdRows(t, 3, "x", "_", "1", "-", "\t", "\n", ";", "[", "]", ":", "\r", "+", "\u00a0", "\u00a1", "\u20ac", "\U0001F600", "\xc3", "\x80", "abcdefghijklmno", "922337203685477580", "12")
}

func TestP501P502EachByteByTheWords(t *testing.T) {
	for b := range 256 {
		s := string([]byte{byte(b)})
		for _, ahead := range []string{"", "a", "1", "-", ";", " ", ",", "\n", "\xc3", "\xe2\x82"} {
			for _, behind := range []string{"", "a", "1", "\n", " b", "\xa9"} {
				holdBySpelling(t, ahead+s+behind)
			}
		}
	}
}

func TestP501P502EachRune(t *testing.T) {
	for r := rune(0); r <= utf8.MaxRune; r++ {
		if utf8.ValidRune(r) && !holdBySpelling(t, "a"+string(r)+"1") {
			return
		}
	}
	for r := rune(0); r <= 0x3000; r++ {
		if utf8.ValidRune(r) && !(holdBySpelling(t, string(r)) && holdBySpelling(t, "1"+string(r)) && holdBySpelling(t, ";"+string(r)+"\n")) {
			return
		}
	}
}
