package num

import (
	"math"
	"math/big"
	"strings"
	"testing"
)

const (
	top = math.MaxInt64
	low = math.MinInt64
)

// numbers are some with two signs, those about each power of 2 and of 10, and those at the ends of 64 bits.
func numbers() []int64 {
	ns := []int64{7, 12, 90, 1203, 1234567890, 9876543210, low, low + 1, top, top - 1}
	for shift := range 63 {
		for d := int64(-2); d <= 2; d++ {
			ns = append(ns, 1<<shift+d)
		}
	}
	for ten, i := int64(1), 0; i < 19; ten, i = ten*10, i+1 {
		ns = append(ns, ten-1, ten, ten+1)
	}
	for _, n := range ns[:len(ns):len(ns)] {
		ns = append(ns, -n)
	}
	return ns
}

// named are numbers with the texts that the promise's words give them.
func named() map[int64]string {
	return map[int64]string{
		0:       "0",
		1:       "1",
		-1:      "-1",
		9:       "9",
		10:      "10",
		-10:     "-10",
		-12:     "-12",
		99:      "99",
		100:     "100",
		-100:    "-100",
		1203:    "1203",
		top:     "9223372036854775807",
		top - 1: "9223372036854775806",
		low:     "-9223372036854775808",
		low + 1: "-9223372036854775807",
	}
}

func wantRead(t *testing.T, s string, n int64) {
	t.Helper()
	if got, ok := Read(s); got != n || !ok {
		t.Errorf("Read(%q): %d %v, not %d true", s, got, ok, n)
	}
}

func wantNone(t *testing.T, s string) {
	t.Helper()
	if got, ok := Read(s); got != 0 || ok {
		if len(s) > 60 {
			s = s[:60] + ".."
		}
		t.Errorf("Read(%q): %d %v, not 0 false", s, got, ok)
	}
}

func TestP201TextOfNamedNumbers(t *testing.T) {
	for n, want := range named() {
		if got := Text(n); got != want {
			t.Errorf("Text(%d): %q, not %q", n, got, want)
		}
	}
}

func TestP201TextHasDigitsAlone(t *testing.T) {
	for _, n := range numbers() {
		if got, want := Text(n), big.NewInt(n).String(); got != want {
			t.Errorf("Text: %q, not %q", got, want)
		}
		digits := strings.TrimPrefix(Text(n), "-")
		if strings.Trim(digits, "0123456789") != "" {
			t.Errorf("Text(%d): %q has more than digits", n, Text(n))
		}
		if digits[0] == '0' && n != 0 {
			t.Errorf("Text(%d): %q has a needless 0", n, Text(n))
		}
	}
}

func TestP201ReadOfNamedTexts(t *testing.T) {
	for n, s := range named() {
		wantRead(t, s, n)
	}
}

func TestP201ReadIsTextTurned(t *testing.T) {
	for _, n := range numbers() {
		wantRead(t, Text(n), n)
	}
}

func TestP201ReadRefusesWrongTexts(t *testing.T) {
	wrong := []string{
		"", "-", "+", "--", "-+1", "+-1", "--1", "1-", "-1-", "1-2",
		"007", "00", "01", "-0", "-00", "-01", "+0", "+5", "+00", "+9223372036854775807", "09223372036854775807", "-09223372036854775808",
		" ", " 1", "1 ", "1 2", "- 1", "-1 ", " -1", "\t1", "1\n", "1\r\n", "\v1", "1\u00a0", "\u20031",
		"a", "x", "1a", "a1", "0x1", "0X1", "0b1", "0o7", "0x", "x1", "ff", "1_0", "_1", "1_", "1,0", "1.0", ".5", "1.", "1e2", "1E2", "Inf", "NaN", "nil",
		"\u0663", "1\u0663", "\uff11", "-\uff11", "\u22121", "\u00b2",
		"\x00", "1\x00", "\x001", "1\x001", "\xff", "1\xff", "\x80", "/", ":", "1/", "1:",
	}
	for _, s := range wrong {
		wantNone(t, s)
	}
}

func TestP201ReadTakesDigitsAlone(t *testing.T) {
	for b := range 256 {
		c := string([]byte{byte(b)})
		digit := b >= '0' && b <= '9'
		if digit {
			wantRead(t, c, int64(b-'0'))
			wantRead(t, "1"+c, int64(10+b-'0'))
			wantRead(t, "-1"+c, -int64(10+b-'0'))
			continue
		}
		wantNone(t, c)
		wantNone(t, "1"+c)
		wantNone(t, "1"+c+"2")
		if b != '-' {
			wantNone(t, c+"1")
		}
		wantNone(t, "-"+c+"1")
	}
}

func TestP201ReadEndsAt64Bits(t *testing.T) {
	one := big.NewInt(1)
	beyond := new(big.Int).Add(big.NewInt(top), one)
	below := new(big.Int).Sub(big.NewInt(low), one)
	for range 40 {
		wantNone(t, beyond.String())
		wantNone(t, below.String())
		beyond.Add(beyond, one)
		below.Sub(below, one)
	}
	// Numbers that would go round to small ones, or to the ends, if they were let go round.
	for shift := uint(64); shift < 200; shift++ {
		for d := int64(-2); d <= 2; d++ {
			n := new(big.Int).Lsh(one, shift)
			n.Add(n, big.NewInt(d))
			wantNone(t, n.String())
			wantNone(t, n.Neg(n).String())
		}
	}
	for _, s := range []string{"9223372036854775810", "-9223372036854775810", "9999999999999999999", "-9999999999999999999", "10000000000000000000", "18446744073709551615", "18446744073709551616", "92233720368547758070"} {
		wantNone(t, s)
	}
}

func TestP201ReadRefusesLongRows(t *testing.T) {
	for _, length := range []int{21, 64, 1000, 1 << 20} {
		for _, digit := range []string{"0", "1", "9"} {
			row := strings.Repeat(digit, length)
			wantNone(t, row)
			wantNone(t, "-"+row)
			wantNone(t, row+"x")
		}
		wantNone(t, strings.Repeat("0", length)+"7")
		wantNone(t, "-"+strings.Repeat("0", length)+"7")
		wantNone(t, strings.Repeat("-", length)+"7")
	}
}
