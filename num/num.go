// Package num is layer 1: checked integer arithmetic and decimal numbers. It is specified in shared/doc/01-num.md.
package num

import "arraylang/api"

// longest is the length of the longest notation, that of the smallest int.
const longest = len("_9223372036854775808")

// Fits reports whether n is a number.
func Fits(n int) bool { return -api.MaxNum <= n && n <= api.MaxNum }

// Add returns the sum of a and b.
func Add(a, b int) (int, api.Errno) {
	if !bothFit(a, b) {
		return 0, api.ErrArg
	}
	// The sum of two numbers is at most 2^63 - 2, so it does not wrap around.
	return checked(a + b)
}

// Sub returns the difference of a and b.
func Sub(a, b int) (int, api.Errno) {
	if !bothFit(a, b) {
		return 0, api.ErrArg
	}
	return checked(a - b)
}

// Mul returns the product of a and b.
func Mul(a, b int) (int, api.Errno) {
	if !bothFit(a, b) {
		return 0, api.ErrArg
	}
	product := a * b
	// A product that wrapped around is off by at least 2^64, which is more than any a, so dividing it by a can't give b.
	if a != 0 && product/a != b {
		return 0, api.ErrOverflow
	}
	return checked(product)
}

// Div returns the quotient of a and b, rounded toward minus infinity.
func Div(a, b int) (int, api.Errno) {
	if e := checkDivision(a, b); e != api.OK {
		return 0, e
	}
	quotient := a / b
	// Go rounds toward zero, which is up if the exact quotient is negative.
	if a%b != 0 && (a < 0) != (b < 0) {
		quotient--
	}
	return quotient, api.OK
}

// Mod returns a minus b times the quotient that Div returns.
func Mod(a, b int) (int, api.Errno) {
	if e := checkDivision(a, b); e != api.OK {
		return 0, e
	}
	remainder := a % b
	// Go's remainder has the sign of a; where Div rounds down once more, b is added back.
	if remainder != 0 && (a < 0) != (b < 0) {
		remainder += b
	}
	return remainder, api.OK
}

// Pow returns a to the power b.
func Pow(a, b int) (int, api.Errno) {
	if !bothFit(a, b) {
		return 0, api.ErrArg
	}
	if b < 0 {
		return 0, api.ErrDomain
	}
	power, e := 1, api.OK
	for {
		if b%2 == 1 {
			if power, e = Mul(power, a); e != api.OK {
				return 0, e
			}
		}
		b /= 2
		// A square beyond the last bit of b is not a factor of the power, so its overflow must not fail the call.
		if b == 0 {
			return power, api.OK
		}
		if a, e = Mul(a, a); e != api.OK {
			return 0, e
		}
	}
}

// Show returns the notation of n.
func Show(n int) string {
	// The absolute value of the smallest int is a uint, but not an int.
	rest := uint(n)
	if n < 0 {
		rest = -rest
	}
	var text [longest]byte
	at := len(text)
	for {
		at--
		text[at] = '0' + byte(rest%10)
		rest /= 10
		if rest == 0 {
			break
		}
	}
	if n < 0 {
		at--
		text[at] = '_'
	}
	return string(text[at:])
}

// Read returns the number that s denotes.
func Read(s string) (int, api.Errno) {
	digits, sign := s, 1
	if s != "" && s[0] == '_' {
		digits, sign = s[1:], -1
	}
	if digits == "" {
		return 0, api.ErrNumber
	}
	n := 0
	for _, c := range digits {
		if c < '0' || c > '9' {
			return 0, api.ErrNumber
		}
		digit := int(c - '0')
		if n > (api.MaxNum-digit)/10 {
			return 0, api.ErrNumber
		}
		n = 10*n + digit
	}
	return sign * n, api.OK
}

func bothFit(a, b int) bool { return Fits(a) && Fits(b) }

func checked(n int) (int, api.Errno) {
	if !Fits(n) {
		return 0, api.ErrOverflow
	}
	return n, api.OK
}

func checkDivision(a, b int) api.Errno {
	if !bothFit(a, b) {
		return api.ErrArg
	}
	if b == 0 {
		return api.ErrZero
	}
	return api.OK
}
