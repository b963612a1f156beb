package num

import (
	"math"
	"math/big"
	"strconv"
	"strings"
	"testing"

	"arraylang/api"
)

type operation struct {
	name string
	call func(a, b int) (int, api.Errno)
}

func operations() []operation {
	return []operation{{"Add", Add}, {"Sub", Sub}, {"Mul", Mul}, {"Div", Div}, {"Mod", Mod}, {"Pow", Pow}}
}

// check fails the test if the operation called name doesn't return n and e for a and b.
func check(t *testing.T, name string, a, b, n int, e api.Errno) {
	t.Helper()
	for _, o := range operations() {
		if o.name != name {
			continue
		}
		if m, f := o.call(a, b); m != n || f != e {
			t.Errorf("%s(%d, %d) = %d, %d; want %d, %d", name, a, b, m, f, n, e)
		}
		return
	}
	t.Fatalf("no operation is called %s", name)
}

// numbers returns small numbers, those near powers of two and ten, near the square root of MaxNum, and near its ends.
func numbers() []int {
	list := []int{0}
	add := func(n int) {
		for d := -1; d <= 1; d++ {
			if m := n + d; m > 0 && m <= api.MaxNum {
				list = append(list, m, -m)
			}
		}
	}
	for n := 1; n <= 13; n += 3 {
		add(n)
	}
	for _, k := range []int{8, 15, 16, 20, 30, 31, 32, 33, 46, 60, 61} {
		add(1 << k)
	}
	for n := 100; n < api.MaxNum/1000; n *= 1000 {
		add(n)
	}
	for _, n := range []int{api.MaxNum, api.MaxNum / 2, api.MaxNum / 3, 3037000499, 2147483648, 1664510} {
		add(n)
	}
	return list
}

// strangers returns ints that are not numbers.
func strangers() []int {
	return []int{api.MaxNum + 1, -api.MaxNum - 1, api.MaxNum + 2, 1 << 62, -1 << 62, math.MaxInt, math.MinInt, math.MinInt + 1}
}

// bounded returns what an operation with the exact result n must return.
func bounded(n *big.Int) (int, api.Errno) {
	if n.CmpAbs(big.NewInt(api.MaxNum)) > 0 {
		return 0, api.ErrOverflow
	}
	return int(n.Int64()), api.OK
}

func TestP101NotNumbers(t *testing.T) {
	partners := append([]int{0, 1, -1, 2, -5, api.MaxNum, -api.MaxNum}, strangers()...)
	for _, o := range operations() {
		for _, a := range strangers() {
			for _, b := range partners {
				check(t, o.name, a, b, 0, api.ErrArg)
				check(t, o.name, b, a, 0, api.ErrArg)
			}
		}
	}
}

func TestP101Pure(t *testing.T) {
	for _, o := range operations() {
		for _, a := range numbers() {
			first, e := o.call(a, 3)
			o.call(3, a)
			if again, f := o.call(a, 3); again != first || f != e {
				t.Errorf("%s(%d, 3) = %d, %d, then %d, %d", o.name, a, first, e, again, f)
			}
		}
	}
}

func TestP101ErrorsGiveZero(t *testing.T) {
	list := append(numbers(), strangers()...)
	for _, o := range operations() {
		for _, a := range list {
			for _, b := range list {
				n, e := o.call(a, b)
				if e != api.OK && n != 0 {
					t.Errorf("%s(%d, %d) = %d, %d", o.name, a, b, n, e)
				}
				if !Fits(n) {
					t.Errorf("%s(%d, %d) = %d is not a number", o.name, a, b, n)
				}
			}
		}
	}
}

func TestP102Fits(t *testing.T) {
	for _, n := range numbers() {
		if !Fits(n) {
			t.Errorf("Fits(%d) is false", n)
		}
	}
	for _, n := range strangers() {
		if Fits(n) {
			t.Errorf("Fits(%d) is true", n)
		}
	}
	if !Fits(api.MaxNum) || !Fits(-api.MaxNum) || Fits(api.MaxNum+1) || Fits(-api.MaxNum-1) {
		t.Error("Fits is wrong at an end of the range")
	}
}

func TestP103Exact(t *testing.T) {
	exact := map[string]func(z, x, y *big.Int) *big.Int{"Add": (*big.Int).Add, "Sub": (*big.Int).Sub, "Mul": (*big.Int).Mul}
	for name, f := range exact {
		for _, a := range numbers() {
			for _, b := range numbers() {
				n, e := bounded(f(new(big.Int), big.NewInt(int64(a)), big.NewInt(int64(b))))
				check(t, name, a, b, n, e)
			}
		}
	}
}

func TestP103Ends(t *testing.T) {
	check(t, "Add", 2, 3, 5, api.OK)
	check(t, "Add", api.MaxNum, 0, api.MaxNum, api.OK)
	check(t, "Add", api.MaxNum, 1, 0, api.ErrOverflow)
	check(t, "Add", -api.MaxNum, -1, 0, api.ErrOverflow)
	check(t, "Add", api.MaxNum, api.MaxNum, 0, api.ErrOverflow)
	check(t, "Add", api.MaxNum, -api.MaxNum, 0, api.OK)
	check(t, "Sub", 3, 5, -2, api.OK)
	check(t, "Sub", -api.MaxNum, 1, 0, api.ErrOverflow)
	check(t, "Sub", -api.MaxNum, api.MaxNum, 0, api.ErrOverflow)
	check(t, "Sub", 0, api.MaxNum, -api.MaxNum, api.OK)
	check(t, "Mul", -4, 5, -20, api.OK)
	check(t, "Mul", api.MaxNum, -1, -api.MaxNum, api.OK)
	check(t, "Mul", api.MaxNum, 0, 0, api.OK)
	check(t, "Mul", 0, -api.MaxNum, 0, api.OK)
	check(t, "Mul", 1<<31, 1<<30, 1<<61, api.OK)
	check(t, "Mul", 1<<31, 1<<31, 0, api.ErrOverflow)
	check(t, "Mul", -1<<31, 1<<31, 0, api.ErrOverflow)
	// These products are 0 and 2^32 modulo 2^64.
	check(t, "Mul", 1<<32, 1<<32, 0, api.ErrOverflow)
	check(t, "Mul", 1<<32, 1<<32+1, 0, api.ErrOverflow)
	check(t, "Mul", api.MaxNum, api.MaxNum, 0, api.ErrOverflow)
}

func TestP104ZeroDivisor(t *testing.T) {
	for _, a := range numbers() {
		check(t, "Div", a, 0, 0, api.ErrZero)
		check(t, "Mod", a, 0, 0, api.ErrZero)
	}
}

func TestP104Signs(t *testing.T) {
	for _, c := range []struct{ a, b, quotient, remainder int }{
		{7, 2, 3, 1}, {-7, 2, -4, 1}, {7, -2, -4, -1}, {-7, -2, 3, -1},
		{6, 3, 2, 0}, {-6, 3, -2, 0}, {6, -3, -2, 0}, {-6, -3, 2, 0},
		{0, 5, 0, 0}, {0, -5, 0, 0}, {1, 5, 0, 1}, {-1, 5, -1, 4}, {1, -5, -1, -4}, {-1, -5, 0, -1},
		{api.MaxNum, -1, -api.MaxNum, 0}, {-api.MaxNum, -1, api.MaxNum, 0},
		{-1, api.MaxNum, -1, api.MaxNum - 1}, {1, -api.MaxNum, -1, 1 - api.MaxNum},
		{api.MaxNum, api.MaxNum, 1, 0}, {-api.MaxNum, 2, -1 << 61, 1},
	} {
		check(t, "Div", c.a, c.b, c.quotient, api.OK)
		check(t, "Mod", c.a, c.b, c.remainder, api.OK)
	}
}

// A remainder that is 0 or has the sign of b and is nearer to 0 than b determines the floored quotient.
func TestP104Floor(t *testing.T) {
	for _, a := range numbers() {
		for _, b := range numbers() {
			if b == 0 {
				continue
			}
			quotient, e := Div(a, b)
			if e != api.OK {
				t.Errorf("Div(%d, %d) fails with %d", a, b, e)
			}
			product := new(big.Int).Mul(big.NewInt(int64(b)), big.NewInt(int64(quotient)))
			remainder := product.Sub(big.NewInt(int64(a)), product)
			if remainder.CmpAbs(big.NewInt(int64(b))) >= 0 || remainder.Sign()*big.NewInt(int64(b)).Sign() < 0 {
				t.Errorf("Div(%d, %d) = %d leaves %d", a, b, quotient, remainder)
			}
			check(t, "Mod", a, b, int(remainder.Int64()), api.OK)
		}
	}
}

func TestP105Exact(t *testing.T) {
	for _, a := range numbers() {
		for b := 0; b <= 70; b++ {
			n, e := bounded(new(big.Int).Exp(big.NewInt(int64(a)), big.NewInt(int64(b)), nil))
			check(t, "Pow", a, b, n, e)
		}
	}
}

func TestP105Ends(t *testing.T) {
	check(t, "Pow", 2, 10, 1024, api.OK)
	check(t, "Pow", 0, 0, 1, api.OK)
	check(t, "Pow", 0, 1, 0, api.OK)
	check(t, "Pow", 0, api.MaxNum, 0, api.OK)
	check(t, "Pow", 1, api.MaxNum, 1, api.OK)
	check(t, "Pow", -1, api.MaxNum, -1, api.OK)
	check(t, "Pow", -1, api.MaxNum-1, 1, api.OK)
	check(t, "Pow", 2, 61, 1<<61, api.OK)
	check(t, "Pow", 2, 62, 0, api.ErrOverflow)
	check(t, "Pow", -2, 61, -1<<61, api.OK)
	check(t, "Pow", -2, 62, 0, api.ErrOverflow)
	check(t, "Pow", 2, 64, 0, api.ErrOverflow)
	check(t, "Pow", 2, api.MaxNum, 0, api.ErrOverflow)
	check(t, "Pow", api.MaxNum, 0, 1, api.OK)
	check(t, "Pow", api.MaxNum, 1, api.MaxNum, api.OK)
	check(t, "Pow", -api.MaxNum, 1, -api.MaxNum, api.OK)
	check(t, "Pow", api.MaxNum, 2, 0, api.ErrOverflow)
	// The next square after the last one that is needed would overflow.
	check(t, "Pow", 2147483647, 2, 2147483647*2147483647, api.OK)
}

func TestP105NegativeExponent(t *testing.T) {
	for _, a := range numbers() {
		check(t, "Pow", a, -1, 0, api.ErrDomain)
		check(t, "Pow", a, -api.MaxNum, 0, api.ErrDomain)
	}
}

func TestP106Show(t *testing.T) {
	for n, s := range map[int]string{
		0: "0", 7: "7", -5: "_5", 10: "10", -10: "_10", 1024: "1024", 99: "99", 100: "100",
		api.MaxNum: "4611686018427387903", -api.MaxNum: "_4611686018427387903",
		api.MaxNum + 1: "4611686018427387904", -api.MaxNum - 1: "_4611686018427387904",
		math.MaxInt: "9223372036854775807", math.MinInt: "_9223372036854775808",
	} {
		if got := Show(n); got != s {
			t.Errorf("Show(%d) = %q", n, got)
		}
	}
	for _, n := range append(numbers(), strangers()...) {
		if got, s := Show(n), strings.Replace(strconv.Itoa(n), "-", "_", 1); got != s {
			t.Errorf("Show(%d) = %q", n, got)
		}
	}
}

func TestP107Read(t *testing.T) {
	for s, n := range map[string]int{
		"0": 0, "_0": 0, "000": 0, "_000": 0, "7": 7, "007": 7, "_007": -7, "10": 10, "_120": -120, "1234567890": 1234567890,
		"4611686018427387903": api.MaxNum, "_4611686018427387903": -api.MaxNum,
		"00000000000000000000004611686018427387903": api.MaxNum,
	} {
		if m, e := Read(s); m != n || e != api.OK {
			t.Errorf("Read(%q) = %d, %d", s, m, e)
		}
	}
	if n, e := Read("_" + strings.Repeat("0", 100000) + "12"); n != -12 || e != api.OK {
		t.Errorf("Read of _12 with leading zeros = %d, %d", n, e)
	}
}

func TestP107NotNumbers(t *testing.T) {
	for _, s := range []string{
		"", "_", "__1", "1_", "_1_", "1_2", "+1", "-1", "_+1", "_-1", " 1", "1 ", "1\n", "\t1", "1.0", "1e3", "0x10", "x", "12a", "a12",
		"/", ":", "1/", "1:", "\x00", "1\x00", "\xff", "1\xff", "\u0661", "1\u0662", "\uff11", "¹",
		"4611686018427387904", "_4611686018427387904", "4611686018427387910", "9223372036854775807", "_9223372036854775808",
		"9223372036854775808", "18446744073709551616", "18446744073709551617", "_18446744073709551617", "36893488147419103233",
		"99999999999999999999", "0004611686018427387904", strings.Repeat("9", 1000), "1" + strings.Repeat("0", 1000),
	} {
		if n, e := Read(s); n != 0 || e != api.ErrNumber {
			t.Errorf("Read(%q) = %d, %d", s, n, e)
		}
	}
}

func TestP107EveryByte(t *testing.T) {
	for c := range 256 {
		isDigit := '0' <= c && c <= '9'
		for _, s := range []string{string([]byte{byte(c)}), string([]byte{'4', byte(c)}), string([]byte{'_', byte(c), '4'})} {
			if _, e := Read(s); (e == api.OK) != isDigit {
				t.Errorf("Read(%q) returns error %d", s, e)
			}
		}
	}
}

func TestP108Read(t *testing.T) {
	for _, n := range numbers() {
		if m, e := Read(Show(n)); m != n || e != api.OK {
			t.Errorf("Read(Show(%d)) = %d, %d", n, m, e)
		}
	}
	for _, n := range strangers() {
		if m, e := Read(Show(n)); m != 0 || e != api.ErrNumber {
			t.Errorf("Read(Show(%d)) = %d, %d", n, m, e)
		}
	}
}

func TestP108Pairs(t *testing.T) {
	for _, a := range numbers() {
		for _, b := range numbers() {
			sum, e := Add(a, b)
			check(t, "Add", b, a, sum, e)
			if e == api.OK {
				check(t, "Sub", sum, b, a, api.OK)
			}
			product, e := Mul(a, b)
			check(t, "Mul", b, a, product, e)
			if b == 0 {
				continue
			}
			quotient, _ := Div(a, b)
			remainder, _ := Mod(a, b)
			multiple, e := Mul(b, quotient)
			if e == api.OK {
				check(t, "Add", multiple, remainder, a, api.OK)
			}
		}
	}
}

// chain returns f(f(a, b), c), and whether both calls succeed.
func chain(f func(a, b int) (int, api.Errno), a, b, c int) (int, bool) {
	n, e := f(a, b)
	if e != api.OK {
		return 0, false
	}
	n, e = f(n, c)
	return n, e == api.OK
}

func TestP108Triples(t *testing.T) {
	for _, a := range numbers() {
		for _, b := range numbers() {
			for _, c := range []int{0, 1, -1, 2, -3, 10, -1 << 31, 1 << 60, api.MaxNum, -api.MaxNum} {
				checkAssociative(t, "Add", Add, a, b, c)
				checkAssociative(t, "Mul", Mul, a, b, c)
				checkDistributive(t, a, b, c)
			}
		}
	}
}

func checkAssociative(t *testing.T, name string, f func(a, b int) (int, api.Errno), a, b, c int) {
	t.Helper()
	left, ok := chain(f, a, b, c)
	// Both operations commute, so this is f(a, f(b, c)).
	right, too := chain(f, b, c, a)
	if ok && too && left != right {
		t.Errorf("%s of %d, %d and %d is %d or %d", name, a, b, c, left, right)
	}
}

func checkDistributive(t *testing.T, a, b, c int) {
	t.Helper()
	sum, e1 := Add(b, c)
	product, e2 := Mul(a, sum)
	first, e3 := Mul(a, b)
	second, e4 := Mul(a, c)
	total, e5 := Add(first, second)
	if e1 == api.OK && e2 == api.OK && e3 == api.OK && e4 == api.OK && (e5 != api.OK || total != product) {
		t.Errorf("%d times the sum of %d and %d is %d or %d (error %d)", a, b, c, product, total, e5)
	}
}

func TestP108Powers(t *testing.T) {
	for _, a := range numbers() {
		for b := range 40 {
			for c := range 40 {
				whole, e := Pow(a, b+c)
				if e != api.OK {
					continue
				}
				first, _ := Pow(a, b)
				second, _ := Pow(a, c)
				check(t, "Mul", first, second, whole, api.OK)
			}
		}
	}
}

func TestExamples(t *testing.T) {
	check(t, "Div", -7, 2, -4, api.OK)
	check(t, "Mod", -7, 2, 1, api.OK)
	check(t, "Mod", 7, -2, -1, api.OK)
	check(t, "Pow", 2, 10, 1024, api.OK)
	check(t, "Pow", 2, 62, 0, api.ErrOverflow)
	if s := Show(-5); s != "_5" {
		t.Errorf("Show(-5) = %q", s)
	}
	if n, e := Read("_007"); n != -7 || e != api.OK {
		t.Errorf("Read(_007) = %d, %d", n, e)
	}
	for _, s := range []string{"", "_", "+1", "4611686018427387904"} {
		if n, e := Read(s); n != 0 || e != api.ErrNumber {
			t.Errorf("Read(%q) = %d, %d", s, n, e)
		}
	}
}
