package sat

import (
	"math"
	"math/big"
	"slices"
	"testing"

	"stint/api"
)

// edges are ints at which something turns: around 0, the least and the greatest one, their halves, powers of 2 and roots.
func edges() []int {
	l := []int{math.MinInt, math.MaxInt, api.MaxTime, api.Never, api.MaxEst, 3037000499, 3037000500, 1000000007, 6148914691236517204}
	for n := range 12 {
		l = append(l, n, -n, math.MinInt+n, math.MaxInt-n)
	}
	for power := 4; power > 0; power <<= 1 {
		l = append(l, power-1, power, power+1, -power-1, -power, -power+1)
	}
	slices.Sort(l)
	return slices.Compact(l)
}

// counts are those of the edges that are not below some number.
func counts(least int) []int {
	return slices.DeleteFunc(edges(), func(n int) bool { return n < least })
}

func great(n int) *big.Int { return big.NewInt(int64(n)) }

// fit is a great number as an int, if it is one.
func fit(n *big.Int) (int, bool) {
	if !n.IsInt64() {
		return 0, false
	}
	return int(n.Int64()), true
}

// side is a great number as an int, or that end of all ints which it is beyond.
func side(n *big.Int) int {
	if k, ok := fit(n); ok {
		return k
	}
	if n.Sign() < 0 {
		return math.MinInt
	}
	return math.MaxInt
}

// meantCmp tells by definition what Cmp must answer: by fractions of the library.
func meantCmp(a, b, c, d int) (int, api.Errno) {
	if a < 0 || c < 0 || b < 1 || d < 1 {
		return 0, api.ErrArg
	}
	return new(big.Rat).SetFrac(great(a), great(b)).Cmp(new(big.Rat).SetFrac(great(c), great(d))), api.OK
}

// meantLeast tells by definition what Least must answer: the quotient, and one more if something is left.
func meantLeast(a, b, c int) (int, api.Errno) {
	if a < 0 || b < 0 || c < 1 {
		return 0, api.ErrArg
	}
	n, left := new(big.Int).QuoRem(new(big.Int).Mul(great(a), great(b)), great(c), new(big.Int))
	if left.Sign() > 0 {
		n.Add(n, great(1))
	}
	k, ok := fit(n)
	if !ok {
		return 0, api.ErrOver
	}
	return k, api.OK
}

func checkAdd(t *testing.T, a, b int) {
	meant := new(big.Int).Add(great(a), great(b))
	k, fits := fit(meant)
	if n, ok := Add(a, b); n != k || ok != fits {
		t.Errorf("Add(%d, %d) = %d, %t; meant: %d, %t", a, b, n, ok, k, fits)
	}
	if n, ok := Sum(a, b); n != k || ok != fits {
		t.Errorf("Sum(%d, %d) = %d, %t; meant: %d, %t", a, b, n, ok, k, fits)
	}
	if n := Plus(a, b); n != side(meant) {
		t.Errorf("Plus(%d, %d) = %d; meant: %d", a, b, n, side(meant))
	}
}

func checkMul(t *testing.T, a, b int) {
	k, fits := fit(new(big.Int).Mul(great(a), great(b)))
	if n, ok := Mul(a, b); n != k || ok != fits {
		t.Errorf("Mul(%d, %d) = %d, %t; meant: %d, %t", a, b, n, ok, k, fits)
	}
}

func checkCmp(t *testing.T, a, b, c, d int) {
	k, f := meantCmp(a, b, c, d)
	if n, e := Cmp(a, b, c, d); n != k || e != f {
		t.Errorf("Cmp(%d, %d, %d, %d) = %d, %d; meant: %d, %d", a, b, c, d, n, e, k, f)
	}
}

func checkLeast(t *testing.T, a, b, c int) {
	k, f := meantLeast(a, b, c)
	if n, e := Least(a, b, c); n != k || e != f {
		t.Errorf("Least(%d, %d, %d) = %d, %d; meant: %d, %d", a, b, c, n, e, k, f)
	}
}

// Sa1: sums that fit, just fit, and do not.
func TestAdd(t *testing.T) {
	for _, c := range []struct {
		a, b, want int
		ok         bool
	}{
		{0, 0, 0, true}, {2, 3, 5, true}, {2, -3, -1, true}, {-2, 3, 1, true}, {-2, -3, -5, true},
		{math.MaxInt, 0, math.MaxInt, true}, {0, math.MaxInt, math.MaxInt, true}, {math.MaxInt - 1, 1, math.MaxInt, true},
		{math.MaxInt, 1, 0, false}, {1, math.MaxInt, 0, false}, {math.MaxInt - 1, 2, 0, false}, {math.MaxInt, math.MaxInt, 0, false},
		{math.MinInt, 0, math.MinInt, true}, {0, math.MinInt, math.MinInt, true}, {math.MinInt + 1, -1, math.MinInt, true},
		{math.MinInt, -1, 0, false}, {-1, math.MinInt, 0, false}, {math.MinInt + 1, -2, 0, false}, {math.MinInt, math.MinInt, 0, false},
		{math.MinInt, math.MaxInt, -1, true}, {math.MaxInt, math.MinInt, -1, true}, {math.MaxInt, -math.MaxInt, 0, true},
		{1 << 62, 1 << 62, 0, false}, {-1 << 62, -1 << 62, math.MinInt, true}, {1 << 62, 1<<62 - 1, math.MaxInt, true},
	} {
		if n, ok := Add(c.a, c.b); n != c.want || ok != c.ok {
			t.Errorf("Add(%d, %d) = %d, %t", c.a, c.b, n, ok)
		}
	}
}

// Sa1: products that fit, just fit, and do not; those of -1 and the least int are the ones that a division does not tell.
func TestMul(t *testing.T) {
	for _, c := range []struct {
		a, b, want int
		ok         bool
	}{
		{0, 0, 0, true}, {2, 3, 6, true}, {2, -3, -6, true}, {-2, 3, -6, true}, {-2, -3, 6, true}, {1, 1, 1, true}, {-1, -1, 1, true},
		{0, math.MinInt, 0, true}, {math.MinInt, 0, 0, true}, {0, math.MaxInt, 0, true}, {math.MaxInt, 0, 0, true}, {0, -1, 0, true},
		{1, math.MinInt, math.MinInt, true}, {math.MinInt, 1, math.MinInt, true}, {math.MaxInt, 1, math.MaxInt, true},
		{-1, math.MinInt, 0, false}, {math.MinInt, -1, 0, false}, {-1, math.MinInt + 1, math.MaxInt, true}, {math.MinInt + 1, -1, math.MaxInt, true},
		{-1, math.MaxInt, -math.MaxInt, true}, {math.MaxInt, -1, math.MinInt + 1, true},
		{math.MinInt, 2, 0, false}, {2, math.MinInt, 0, false}, {math.MinInt, -2, 0, false}, {math.MinInt, math.MinInt, 0, false},
		{math.MaxInt, 2, 0, false}, {math.MaxInt, -2, 0, false}, {math.MaxInt, math.MaxInt, 0, false}, {math.MinInt, math.MaxInt, 0, false},
		{1 << 62, 2, 0, false}, {2, 1 << 62, 0, false}, {-1 << 62, 2, math.MinInt, true}, {1 << 62, -2, math.MinInt, true}, {-1 << 62, -2, 0, false},
		{1<<62 - 1, 2, math.MaxInt - 1, true}, {-1<<62 - 1, 2, 0, false}, {-1 << 31, 1 << 32, math.MinInt, true}, {1 << 31, 1 << 32, 0, false},
		{1 << 32, 1 << 32, 0, false}, {-1 << 32, 1 << 32, 0, false}, {3037000499, 3037000499, 9223372030926249001, true}, {3037000500, 3037000500, 0, false},
		{3074457345618258602, 3, math.MaxInt - 1, true}, {3074457345618258603, 3, 0, false}, {3074457345618258603, -3, 0, false},
	} {
		if n, ok := Mul(c.a, c.b); n != c.want || ok != c.ok {
			t.Errorf("Mul(%d, %d) = %d, %t", c.a, c.b, n, ok)
		}
	}
}

// Sa1: a sum that does not fit is that end of all ints on whose side it is.
func TestPlus(t *testing.T) {
	for _, c := range []struct{ a, b, want int }{
		{0, 0, 0}, {2, 3, 5}, {-2, -3, -5}, {2, -3, -1},
		{math.MaxInt, 0, math.MaxInt}, {math.MaxInt - 1, 1, math.MaxInt}, {math.MaxInt, 1, math.MaxInt}, {1, math.MaxInt, math.MaxInt}, {math.MaxInt, math.MaxInt, math.MaxInt},
		{math.MinInt, 0, math.MinInt}, {math.MinInt + 1, -1, math.MinInt}, {math.MinInt, -1, math.MinInt}, {-1, math.MinInt, math.MinInt}, {math.MinInt, math.MinInt, math.MinInt},
		{math.MaxInt, math.MinInt, -1}, {math.MinInt, math.MaxInt, -1}, {math.MaxInt, -1, math.MaxInt - 1}, {math.MinInt, 1, math.MinInt + 1},
	} {
		if n := Plus(c.a, c.b); n != c.want {
			t.Errorf("Plus(%d, %d) = %d", c.a, c.b, n)
		}
	}
}

// Sa1: numbers as many as there are, none too; what runs over on the way does not fit, whatever comes behind it.
func TestSum(t *testing.T) {
	for _, c := range []struct {
		l    []int
		want int
		ok   bool
	}{
		{nil, 0, true}, {[]int{}, 0, true}, {[]int{0}, 0, true}, {[]int{5}, 5, true}, {[]int{1, 2, 3}, 6, true}, {[]int{1, -2, 3, -4}, -2, true},
		{[]int{math.MinInt}, math.MinInt, true}, {[]int{math.MaxInt}, math.MaxInt, true},
		{[]int{math.MaxInt, 1}, 0, false}, {[]int{math.MinInt, -1}, 0, false},
		{[]int{math.MaxInt, 1, -1}, 0, false}, {[]int{math.MinInt, -1, 1}, 0, false}, {[]int{1, 1, math.MaxInt, -5, -5}, 0, false},
		{[]int{math.MaxInt, -1, 1}, math.MaxInt, true}, {[]int{1, -1, math.MaxInt}, math.MaxInt, true}, {[]int{math.MinInt, 1, -1}, math.MinInt, true},
		{[]int{math.MinInt, math.MaxInt, math.MaxInt, 1}, math.MaxInt, true}, {[]int{math.MinInt, math.MaxInt, math.MaxInt, 2}, 0, false},
		{[]int{math.MaxInt, math.MaxInt, math.MinInt, math.MinInt}, 0, false}, {[]int{math.MaxInt, math.MaxInt, 2}, 0, false},
		{[]int{1 << 62, 1 << 62, -1 << 62}, 0, false}, {[]int{1 << 62, -1 << 62, 1 << 62}, 1 << 62, true},
	} {
		if n, ok := Sum(c.l...); n != c.want || ok != c.ok {
			t.Errorf("Sum(%d) = %d, %t", c.l, n, ok)
		}
	}
	if n, ok := Sum(); n != 0 || !ok {
		t.Errorf("Sum of none = %d, %t", n, ok)
	}
}

// Sa1: of three numbers too each sum on the way must fit; what is handed over stays as it is.
func TestSumByDefinition(t *testing.T) {
	l := []int{math.MinInt, math.MinInt + 1, -1 << 62, -1, 0, 1, 1 << 62, math.MaxInt - 1, math.MaxInt}
	for _, a := range l {
		for _, b := range l {
			for _, c := range l {
				checkSum(t, a, b, c)
			}
		}
	}
}

func checkSum(t *testing.T, a, b, c int) {
	handed := []int{a, b, c}
	n, ok := Sum(handed...)
	some := new(big.Int).Add(great(a), great(b))
	want, fits := fit(new(big.Int).Add(some, great(c)))
	if !some.IsInt64() {
		want, fits = 0, false
	}
	if n != want || ok != fits {
		t.Errorf("Sum(%d, %d, %d) = %d, %t; meant: %d, %t", a, b, c, n, ok, want, fits)
	}
	if !slices.Equal(handed, []int{a, b, c}) {
		t.Errorf("Sum(%d, %d, %d) has turned it into %d", a, b, c, handed)
	}
}

// Sa1: sums and products of all pairs of edges.
func TestPairsByDefinition(t *testing.T) {
	for _, a := range edges() {
		for _, b := range edges() {
			checkAdd(t, a, b)
			checkMul(t, a, b)
		}
	}
}

// Sa2: fractions, also those whose products do not fit, and those next to each other.
func TestCmp(t *testing.T) {
	for _, c := range []struct{ a, b, c, d, want int }{
		{1, 2, 2, 4, 0}, {1, 2, 1, 3, 1}, {1, 3, 1, 2, -1}, {0, 1, 0, 5, 0}, {0, 7, 1, math.MaxInt, -1}, {1, math.MaxInt, 0, 7, 1}, {3, 1, 2, 1, 1}, {7, 7, 1, 1, 0},
		{math.MaxInt, 1, math.MaxInt, 1, 0}, {math.MaxInt, math.MaxInt, 1, 1, 0}, {math.MaxInt, 1, 1, math.MaxInt, 1}, {1, math.MaxInt, math.MaxInt, 1, -1},
		{math.MaxInt, math.MaxInt - 1, math.MaxInt - 1, math.MaxInt - 2, -1}, {math.MaxInt - 1, math.MaxInt, math.MaxInt - 2, math.MaxInt - 1, 1},
		{math.MaxInt, 2, math.MaxInt - 1, 2, 1}, {math.MaxInt - 1, 3, math.MaxInt, 3, -1}, {math.MaxInt, 3, math.MaxInt, 2, -1},
		{1 << 40, 1 << 30, 1 << 50, 1 << 40, 0}, {1 << 62, 1 << 62, 1 << 61, 1 << 61, 0}, {1 << 62, 1 << 61, 3, 1, -1}, {1 << 32, 1, 1 << 32, 1 << 32, 1},
		{1 << 33, 1 << 31, 1, 1 << 62, 1},
	} {
		if n, e := Cmp(c.a, c.b, c.c, c.d); n != c.want || e != api.OK {
			t.Errorf("Cmp(%d, %d, %d, %d) = %d, %d", c.a, c.b, c.c, c.d, n, e)
		}
	}
}

// Sa2: what is no fraction is refused, with a 0 beside the error.
func TestCmpArg(t *testing.T) {
	for _, c := range [][4]int{
		{-1, 1, 1, 1}, {1, 0, 1, 1}, {1, -1, 1, 1}, {1, 1, -1, 1}, {1, 1, 1, 0}, {1, 1, 1, -1}, {-1, -1, 1, 1}, {1, 1, -1, -1}, {0, 0, 0, 0}, {-1, 0, -1, 0},
		{math.MinInt, 1, 1, 1}, {2, math.MinInt, 1, 1}, {2, 1, math.MinInt, 1}, {2, 1, 1, math.MinInt}, {math.MinInt, math.MinInt, math.MinInt, math.MinInt},
	} {
		if n, e := Cmp(c[0], c[1], c[2], c[3]); n != 0 || e != api.ErrArg {
			t.Errorf("Cmp(%d) = %d, %d", c, n, e)
		}
	}
}

// Sa2: the least number that is not less, also where the product does not fit and what it is divided to does.
func TestLeast(t *testing.T) {
	for _, c := range []struct{ a, b, c, want int }{
		{3, 5, 4, 4}, {3, 4, 4, 3}, {3, 4, 12, 1}, {3, 4, 13, 1}, {3, 4, 11, 2}, {0, 5, 4, 0}, {5, 0, 4, 0}, {0, 0, 1, 0}, {7, 1, 1, 7}, {1, 1, math.MaxInt, 1}, {0, math.MaxInt, math.MaxInt, 0},
		{math.MaxInt, 1, 1, math.MaxInt}, {1, math.MaxInt, 1, math.MaxInt}, {math.MaxInt, math.MaxInt, math.MaxInt, math.MaxInt},
		{math.MaxInt, 2, 2, math.MaxInt}, {math.MaxInt, 2, 3, 6148914691236517205}, {math.MaxInt, 1, 2, 1 << 62},
		{math.MaxInt, math.MaxInt - 1, math.MaxInt, math.MaxInt - 1}, {1 << 62, 1 << 62, 1 << 62, 1 << 62}, {1 << 62, 3, 2, 3 << 61},
		{math.MaxInt - 1, 1 << 40, 1 << 40, math.MaxInt - 1}, {math.MaxInt - 1, math.MaxInt - 1, math.MaxInt, math.MaxInt - 1},
	} {
		if n, e := Least(c.a, c.b, c.c); n != c.want || e != api.OK {
			t.Errorf("Least(%d, %d, %d) = %d, %d", c.a, c.b, c.c, n, e)
		}
	}
}

// Sa2: what does not fit is refused, one above the greatest int too, and where two words do not hold it.
func TestLeastOver(t *testing.T) {
	for _, c := range [][3]int{
		{math.MaxInt, 2, 1}, {2, math.MaxInt, 1}, {1 << 62, 2, 1}, {1 << 62, 4, 2}, {1 << 32, 1 << 32, 1}, {1 << 32, 1 << 32, 2}, {1 << 62, 1 << 62, 1}, {math.MaxInt, math.MaxInt, 1},
		{math.MaxInt, math.MaxInt, math.MaxInt - 1}, {math.MaxInt, math.MaxInt - 1, math.MaxInt - 2}, {math.MaxInt, math.MaxInt, 1 << 62}, {math.MaxInt, math.MaxInt, 1<<62 - 1}, {math.MaxInt, 3, 2},
		// Here the whole quotient is the greatest int, and something is left.
		{1<<32 - 1, 1<<32 + 1, 2},
		// And here it is the greatest of one word, and something is left: one more would be 0.
		{253921, 145295143558111, 2},
	} {
		if n, e := Least(c[0], c[1], c[2]); n != 0 || e != api.ErrOver {
			t.Errorf("Least(%d) = %d, %d", c, n, e)
		}
	}
}

// Sa2: a wrong argument is refused ahead of what does not fit.
func TestLeastArg(t *testing.T) {
	for _, c := range [][3]int{
		{-1, 1, 1}, {1, -1, 1}, {1, 1, 0}, {1, 1, -1}, {-1, -1, 1}, {-1, -1, -1}, {0, 0, 0}, {0, 0, -1}, {0, -1, 1}, {-1, 0, 1},
		{math.MinInt, 1, 1}, {1, math.MinInt, 1}, {1, 1, math.MinInt}, {math.MinInt, math.MinInt, math.MinInt},
		{math.MaxInt, math.MaxInt, 0}, {math.MaxInt, math.MaxInt, -1}, {math.MaxInt, math.MinInt, 1}, {math.MinInt, math.MaxInt, 1},
	} {
		if n, e := Least(c[0], c[1], c[2]); n != 0 || e != api.ErrArg {
			t.Errorf("Least(%d) = %d, %d", c, n, e)
		}
	}
}

// Sa2: fractions and quotients of edges are answered as by definition; and so are all small ones, wrong ones among them.
func TestFractionsByDefinition(t *testing.T) {
	some := []int{math.MinInt, -1, 0, 1, 2, 3, 1<<31 - 1, 1 << 32, 1<<62 - 1, 1 << 62, 1<<62 + 1, math.MaxInt - 2, math.MaxInt - 1, math.MaxInt}
	small := []int{-2, -1, 0, 1, 2, 3, 4, 5, 6}
	for _, l := range [][]int{some, small} {
		for _, a := range l {
			for _, b := range l {
				for _, c := range l {
					checkLeast(t, a, b, c)
					for _, d := range l {
						checkCmp(t, a, b, c, d)
					}
				}
			}
		}
	}
}

// Sa2: quotients around the greatest int: where it is just reached, and one beside it.
func TestLeastAroundMost(t *testing.T) {
	for _, b := range counts(1) {
		for _, c := range counts(1) {
			at, ok := fit(new(big.Int).Quo(new(big.Int).Mul(great(math.MaxInt), great(c)), great(b)))
			if !ok {
				continue
			}
			for _, a := range []int{at - 1, at, at + 1} {
				checkLeast(t, a, b, c)
			}
		}
	}
}

// Sa3: fractions compare either way alike, and with themselves they are the same.
func TestCmpEitherWay(t *testing.T) {
	some := []int{0, 1, 2, 3, 5, 1 << 32, 1<<62 - 1, 1 << 62, math.MaxInt - 1, math.MaxInt}
	for _, a := range some {
		for _, b := range some[1:] {
			if n, e := Cmp(a, b, a, b); n != 0 || e != api.OK {
				t.Errorf("Cmp of %d by %d with itself = %d, %d", a, b, n, e)
			}
			for _, c := range some {
				for _, d := range some[1:] {
					n, _ := Cmp(a, b, c, d)
					if k, _ := Cmp(c, d, a, b); k != -n {
						t.Errorf("Cmp(%d, %d, %d, %d) = %d, and %d the other way", a, b, c, d, n, k)
					}
				}
			}
		}
	}
}

// Sa3: what is least is not too small, and less than one too great: Least times c is a times b, or more by less than c.
func TestLeastIsLeast(t *testing.T) {
	some := []int{0, 1, 2, 3, 7, 1 << 32, 1<<62 - 1, 1 << 62, math.MaxInt - 1, math.MaxInt}
	for _, a := range some {
		for _, b := range some {
			for _, c := range some[1:] {
				checkIsLeast(t, a, b, c)
			}
		}
	}
}

func checkIsLeast(t *testing.T, a, b, c int) {
	n, e := Least(a, b, c)
	if e != api.OK {
		return
	}
	over := new(big.Int).Mul(great(n), great(c))
	over.Sub(over, new(big.Int).Mul(great(a), great(b)))
	if over.Sign() < 0 || over.Cmp(great(c)) >= 0 {
		t.Errorf("Least(%d, %d, %d) = %d: too great by %s", a, b, c, n, over)
	}
}

// Sa1 to Sa3 of any numbers: go test -fuzz=FuzzNumbers ./sat.
func FuzzNumbers(f *testing.F) {
	f.Add(3, 5, 4, 1)
	f.Add(math.MaxInt, math.MaxInt, math.MaxInt, math.MaxInt)
	f.Add(math.MinInt, -1, 1, math.MinInt)
	f.Fuzz(func(t *testing.T, a, b, c, d int) {
		checkAdd(t, a, b)
		checkMul(t, a, b)
		checkSum(t, a, b, c)
		checkCmp(t, a, b, c, d)
		checkLeast(t, a, b, c)
		checkIsLeast(t, a, b, c)
	})
}
