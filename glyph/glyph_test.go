package glyph

import (
	"math"
	"slices"
	"strings"
	"testing"
	"unicode/utf8"
)

const bad = true

// spot is a Spot in the order in which the document tells its fields.
func spot(r rune, at, size, line, col int, bad bool) Spot {
	return Spot{Rune: r, At: at, Size: size, Line: line, Col: col, Bad: bad}
}

func wantSpots(t *testing.T, s string, want ...Spot) {
	t.Helper()
	if got := Spots(s); !slices.Equal(got, want) {
		t.Errorf("Spots(%q): %v, not %v", s, got, want)
	}
}

func wantEnd(t *testing.T, s string, line, col int) {
	t.Helper()
	if l, c := End(s); l != line || c != col {
		t.Errorf("End(%q): %d %d, not %d %d", s, l, c, line, col)
	}
}

// firstSize is how many bytes the first rune of s has, and whether they are UTF-8.
func firstSize(s string) (int, bool) {
	for size := 1; size <= 4 && size <= len(s); size++ {
		if utf8.ValidString(s[:size]) {
			return size, true
		}
	}
	return 1, false
}

// spelled is Spots by the words of the promise: lines and columns are counted anew for each rune.
func spelled(s string) []Spot {
	var spots []Spot
	for at := 0; at < len(s); {
		size, ok := firstSize(s[at:])
		r := rune(0xFFFD)
		if ok {
			r = []rune(s[at : at+size])[0]
		}
		line := 1 + strings.Count(s[:at], "\n")
		col := 1
		for i := len(spots) - 1; i >= 0 && spots[i].Rune != 10; i-- {
			col++
		}
		spots = append(spots, spot(r, at, size, line, col, !ok))
		at += size
	}
	return spots
}

// texts are all texts of up to four pieces: runes of each size, ends of lines, and bytes that are no UTF-8.
func texts() []string {
	pieces := []string{"a", "\n", "\r", "\u00e9", "\u20ac", "\U0001F600", "\ufffd", "\xff", "\x80", "\xc3", "\xe2\x82", "\xf0\x9f\x98"}
	all := []string{""}
	row := all
	for range 4 {
		var longer []string
		for _, s := range row {
			for _, p := range pieces {
				longer = append(longer, s+p)
			}
		}
		all = append(all, longer...)
		row = longer
	}
	return all
}

func TestP301SpotsOfExamples(t *testing.T) {
	wantSpots(t, "")
	wantSpots(t, "\u00e9", spot(0xE9, 0, 2, 1, 1, false))
	wantSpots(t, "a\n\u00e9b", spot('a', 0, 1, 1, 1, false), spot(10, 1, 1, 1, 2, false), spot(0xE9, 2, 2, 2, 1, false), spot('b', 4, 1, 2, 2, false))
}

func TestP301SpotsOfEachSize(t *testing.T) {
	wantSpots(t, "\x00\x7f", spot(0, 0, 1, 1, 1, false), spot(0x7F, 1, 1, 1, 2, false))
	wantSpots(t, "\u0080\u07ff", spot(0x80, 0, 2, 1, 1, false), spot(0x7FF, 2, 2, 1, 2, false))
	wantSpots(t, "\u0800\uffff", spot(0x800, 0, 3, 1, 1, false), spot(0xFFFF, 3, 3, 1, 2, false))
	wantSpots(t, "\ud7ff\ue000", spot(0xD7FF, 0, 3, 1, 1, false), spot(0xE000, 3, 3, 1, 2, false))
	wantSpots(t, "\U00010000\U0010ffff", spot(0x10000, 0, 4, 1, 1, false), spot(0x10FFFF, 4, 4, 1, 2, false))
	wantSpots(t, "a\u00e9\u20ac\U0001F600z", spot('a', 0, 1, 1, 1, false), spot(0xE9, 1, 2, 1, 2, false), spot(0x20AC, 3, 3, 1, 3, false), spot(0x1F600, 6, 4, 1, 4, false), spot('z', 10, 1, 1, 5, false))
	wantSpots(t, "e\u0301", spot('e', 0, 1, 1, 1, false), spot(0x301, 1, 2, 1, 2, false))
}

func TestP301SpotsOfLines(t *testing.T) {
	wantSpots(t, "\n", spot(10, 0, 1, 1, 1, false))
	wantSpots(t, "\na", spot(10, 0, 1, 1, 1, false), spot('a', 1, 1, 2, 1, false))
	wantSpots(t, "a\n", spot('a', 0, 1, 1, 1, false), spot(10, 1, 1, 1, 2, false))
	wantSpots(t, "\n\n\nb", spot(10, 0, 1, 1, 1, false), spot(10, 1, 1, 2, 1, false), spot(10, 2, 1, 3, 1, false), spot('b', 3, 1, 4, 1, false))
}

func TestP301JustByte10EndsLines(t *testing.T) {
	wantSpots(t, "\r\nb\rc", spot(13, 0, 1, 1, 1, false), spot(10, 1, 1, 1, 2, false), spot('b', 2, 1, 2, 1, false), spot(13, 3, 1, 2, 2, false), spot('c', 4, 1, 2, 3, false))
	for _, other := range []string{"\r", "\v", "\f", "\t", "\x00", "\u0085", "\u2028", "\u2029", "\u010a"} {
		wantEnd(t, other, 1, 2)
		wantEnd(t, "a"+other+"b", 1, 4)
		if last := Spots(other + "a")[1]; last.Line != 1 || last.Col != 2 {
			t.Errorf("a rune behind %q: line %d, column %d", other, last.Line, last.Col)
		}
	}
}

func TestP301WrittenReplacementIsNotBad(t *testing.T) {
	wantSpots(t, "\ufffd", spot(0xFFFD, 0, 3, 1, 1, false))
	wantSpots(t, "\ufffd\xff\ufffd", spot(0xFFFD, 0, 3, 1, 1, false), spot(0xFFFD, 3, 1, 1, 2, bad), spot(0xFFFD, 4, 3, 1, 3, false))
	wantSpots(t, "\xef\xbf", spot(0xFFFD, 0, 1, 1, 1, bad), spot(0xFFFD, 1, 1, 1, 2, bad))
}

func TestP301BytesThatAreNoRune(t *testing.T) {
	wrong := []string{
		"\x80", "\xbf", "\xc0", "\xc1", "\xf5", "\xfe", "\xff", // bytes that begin nothing
		"\xc3", "\xe2\x82", "\xf0\x9f\x98", "\xf0", // cut off
		"\xc0\x80", "\xe0\x80\x80", "\xf0\x80\x80\x80", "\xe0\x9f\xbf", "\xf0\x8f\xbf\xbf", // longer than need be
		"\xed\xa0\x80", "\xed\xbf\xbf", // halves of a pair
		"\xf4\x90\x80\x80", "\xf8\x88\x80\x80\x80", // beyond U+10FFFF
	}
	for _, s := range wrong {
		want := []Spot{spot('a', 0, 1, 1, 1, false)}
		for i := range len(s) {
			want = append(want, spot(0xFFFD, 1+i, 1, 1, 2+i, bad))
		}
		wantSpots(t, "a"+s, want...)
		wantEnd(t, "a"+s, 1, 2+len(s))
		want = append(want, spot(10, 1+len(s), 1, 1, 2+len(s), false), spot('z', 2+len(s), 1, 2, 1, false))
		wantSpots(t, "a"+s+"\nz", want...)
		wantEnd(t, "a"+s+"\nz", 2, 2)
	}
}

func TestP301EachByteAlone(t *testing.T) {
	for b := range 256 {
		s := string([]byte{byte(b)})
		if b < 0x80 {
			wantSpots(t, s, spot(rune(b), 0, 1, 1, 1, false))
		} else {
			wantSpots(t, s, spot(0xFFFD, 0, 1, 1, 1, bad))
		}
	}
}

func TestP301EachRuneAlone(t *testing.T) {
	for r := rune(0); r <= 0x10FFFF; r++ {
		s := string(r)
		if 0xD800 <= r && r <= 0xDFFF {
			continue
		}
		if got := Spots(s); len(got) != 1 || got[0] != spot(r, 0, len(s), 1, 1, false) {
			t.Fatalf("Spots(%q): %v", s, got)
		}
	}
}

func TestP301SpotsByTheWords(t *testing.T) {
	for _, s := range texts() {
		if got, want := Spots(s), spelled(s); !slices.Equal(got, want) {
			t.Fatalf("Spots(%q): %v, not %v", s, got, want)
		}
	}
}

func TestP301EndOfNamedTexts(t *testing.T) {
	wantEnd(t, "", 1, 1)
	wantEnd(t, "a\n\u00e9b", 2, 3)
	wantEnd(t, "a", 1, 2)
	wantEnd(t, "\u00e9", 1, 2)
	wantEnd(t, "\U0001F600\ufffd", 1, 3)
	wantEnd(t, "\n", 2, 1)
	wantEnd(t, "\n\n", 3, 1)
	wantEnd(t, "\nab", 2, 3)
	wantEnd(t, "ab\n", 2, 1)
	wantEnd(t, "ab\r\n", 2, 1)
	wantEnd(t, "a\xff\xe2\x82", 1, 5)
	wantEnd(t, "\n\xff", 2, 2)
}

func TestP301EndIsWhereARuneBehindStands(t *testing.T) {
	for _, s := range texts() {
		spots := spelled(s + "x")
		last := spots[len(spots)-1]
		wantEnd(t, s, last.Line, last.Col)
	}
}

func TestP301LongTexts(t *testing.T) {
	const many = 1 << 17
	row := strings.Repeat("\u00e9", many)
	wantEnd(t, row, 1, many+1)
	spots := Spots(row + "\n" + row)
	if got, want := spots[2*many], spot(0xE9, 4*many-1, 2, 2, many, false); got != want {
		t.Errorf("the last of two long lines: %v, not %v", got, want)
	}
	lines := strings.Repeat("\n", many)
	wantEnd(t, lines, many+1, 1)
	if got, want := Spots(lines)[many-1], spot(10, many-1, 1, many, 1, false); got != want {
		t.Errorf("the last of many lines: %v, not %v", got, want)
	}
}

func TestP301AnswersAreNew(t *testing.T) {
	first := Spots("ab\xff")
	clear(first)
	clear(first[:cap(first)])
	wantSpots(t, "ab\xff", spot('a', 0, 1, 1, 1, false), spot('b', 1, 1, 1, 2, false), spot(0xFFFD, 2, 1, 1, 3, bad))
}

func wantKind(t *testing.T, r rune, letter, digit, blank bool) {
	t.Helper()
	if Letter(r) != letter || Digit(r) != digit || Blank(r) != blank {
		t.Errorf("%d: Letter %v, Digit %v, Blank %v, not %v, %v, %v", r, Letter(r), Digit(r), Blank(r), letter, digit, blank)
	}
}

func TestP302Letters(t *testing.T) {
	for _, r := range "abcdefghijklmnopqrstuvwxyzABCDEFGHIJKLMNOPQRSTUVWXYZ_" {
		wantKind(t, r, true, false, false)
	}
	for _, r := range []rune{0xA1, 0xA2, 0xAD, 0xD7, 0xE9, 0xFF, 0x100, 0x301, 0x663, 0x2003, 0x2028, 0x3000, 0xD7FF, 0xD800, 0xDFFF, 0xE000, 0xFEFF, 0xFF10, 0xFFFD, 0xFFFF, 0x10000, 0x1F600, 0x10FFFE, 0x10FFFF} {
		wantKind(t, r, true, false, false)
	}
}

func TestP302Digits(t *testing.T) {
	for _, r := range "0123456789" {
		wantKind(t, r, false, true, false)
	}
}

func TestP302Blanks(t *testing.T) {
	wantKind(t, 32, false, false, true)
	wantKind(t, 9, false, false, true)
}

func TestP302RunesBesideAreNone(t *testing.T) {
	for _, r := range []rune{'a' - 1, 'z' + 1, 'A' - 1, 'Z' + 1, '_' - 1, 0xA0, '0' - 1, '9' + 1, 31, 33, 8, 10, 11, 12, 13, 0, 0x7F, 0x80, 0x85, '-', '.', '$', '%'} {
		wantKind(t, r, false, false, false)
	}
}

func TestP302NumbersThatAreNoRune(t *testing.T) {
	for _, r := range []rune{-1, -9, -32, -'0', -'a', -'_', -0xA1, math.MinInt32, math.MinInt32 + 'a', 0x110000, 0x110001, 0x200000, 0x7FFFFFFF - 1, math.MaxInt32} {
		wantKind(t, r, false, false, false)
	}
}

func TestP302EachNumberByTheWords(t *testing.T) {
	const letters = "abcdefghijklmnopqrstuvwxyzABCDEFGHIJKLMNOPQRSTUVWXYZ_"
	for r := rune(-0x1000); r < 0x111000; r++ {
		low := 0 <= r && r < 0x80
		letter := low && strings.IndexByte(letters, byte(r)) >= 0 || r > 0xA0 && r < 0x110000
		digit := low && strings.IndexByte("0123456789", byte(r)) >= 0
		blank := low && strings.IndexByte(" \t", byte(r)) >= 0
		wantKind(t, r, letter, digit, blank)
	}
}
