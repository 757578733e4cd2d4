// Package word reckons with numbers of 64 bits, and their flags.
package word

import (
	"paling/api"
)

// Do reckons a op b; it is false of an op that reckons nothing.
func Do(op int, a, b int64) (int64, api.Flags, bool) {
	switch op {
	case api.Add:
		n := a + b
		return n, addFlags(a, b, n), true
	case api.Sub:
		n := a - b
		return n, subFlags(a, b, n), true
	case api.And:
		n := a & b
		return n, signFlags(n), true
	case api.Or:
		n := a | b
		return n, signFlags(n), true
	case api.Xor:
		n := a ^ b
		return n, signFlags(n), true
	case api.Cmp:
		return a, subFlags(a, b, a-b), true
	}
	return 0, api.Flags{}, false
}

// signFlags has the flags that hang on the answer n alone.
func signFlags(n int64) api.Flags {
	return api.Flags{Z: n == 0, S: n < 0}
}

// addFlags has the flags of the sum n of a and b.
func addFlags(a, b, n int64) api.Flags {
	f := signFlags(n)
	// A sum that went round its end is below each of its parts.
	f.C = uint64(n) < uint64(a)
	// Only parts of one sign can leave 64 bits, and the sum then has the other sign.
	f.O = (a < 0) == (b < 0) && (n < 0) != (a < 0)
	return f
}

// subFlags has the flags of the difference n of a and b.
func subFlags(a, b, n int64) api.Flags {
	f := signFlags(n)
	f.C = uint64(a) < uint64(b)
	// Only parts of unlike signs can leave 64 bits, and the difference then has b's sign.
	f.O = (a < 0) != (b < 0) && (n < 0) != (a < 0)
	return f
}

// Holds tells whether cond holds of the flags; it is false of a cond that is none.
func Holds(cond int, f api.Flags) bool {
	below := f.S != f.O
	switch cond {
	case api.E:
		return f.Z
	case api.Ne:
		return !f.Z
	case api.L:
		return below
	case api.Le:
		return below || f.Z
	case api.G:
		return !below && !f.Z
	case api.Ge:
		return !below
	case api.B:
		return f.C
	case api.Be:
		return f.C || f.Z
	case api.A:
		return !f.C && !f.Z
	case api.Ae:
		return !f.C
	}
	return false
}

// Turned has the cond that holds just where cond does not, and 0 of a cond that is none.
func Turned(cond int) int {
	switch cond {
	case api.E:
		return api.Ne
	case api.Ne:
		return api.E
	case api.L:
		return api.Ge
	case api.Le:
		return api.G
	case api.G:
		return api.Le
	case api.Ge:
		return api.L
	case api.B:
		return api.Ae
	case api.Be:
		return api.A
	case api.A:
		return api.Be
	case api.Ae:
		return api.B
	}
	return 0
}
