package num

import (
	"math"
	"math/big"
	"strconv"
	"strings"
	"testing"

	"stint/api"
)

const (
	mostText  = "1125899906842624" // MaxTime
	aboveText = "1125899906842625" // one more
)

// numbers are some of all sizes: around 0, MaxTime, and wherever a digit more begins.
func numbers() []int {
	l := []int{0, 1, 2, 7, 105, 1000000007, api.MaxEst, api.MaxTime / 2, api.MaxTime - 1, api.MaxTime}
	for power := 10; power < api.MaxTime; power *= 10 {
		l = append(l, power-1, power, power+1, power/10*7)
	}
	for n := range 2000 {
		l = append(l, n)
	}
	return l
}

// noNumbers are ints that are no numbers.
func noNumbers() []int {
	return []int{-1, -2, -10, math.MinInt, math.MinInt + 1, api.MaxTime + 1, api.MaxTime * 10, api.Never, math.MaxInt}
}

// texts are all texts of up to so many bytes out of an alphabet.
func texts(alphabet string, most int) []string {
	all := []string{""}
	last := all
	for range most {
		var longer []string
		for _, s := range last {
			for at := range len(alphabet) {
				longer = append(longer, s+alphabet[at:at+1])
			}
		}
		all = append(all, longer...)
		last = longer
	}
	return all
}

// aroundMost are texts of digits near MaxTime, and some that are far above.
func aroundMost() []string {
	l := []string{
		mostText, aboveText, "1125899906842623", "1125899906842619", "1125899906842630", "1125899906842700",
		"999999999999999", "1000000000000000", "9999999999999999", "2000000000000000", "11258999068426240", "10000000000000000",
		"9223372036854775807", "9223372036854775808", "18446744073709551616", "18446744073709551621", "36893488147419103233",
		strings.Repeat("9", 400), "1" + strings.Repeat("0", 1000),
	}
	for _, s := range l {
		l = append(l, "0"+s, s+"x", s+" 1")
	}
	return l
}

// meant tells by definition what Get must answer.
func meant(s string) (int, api.Errno) {
	if s == "" || len(s) > 1 && s[0] == '0' || strings.Trim(s, "0123456789") != "" {
		return 0, api.ErrText
	}
	for at := range len(s) {
		if !strings.Contains("0123456789", s[at:at+1]) {
			return 0, api.ErrText
		}
	}
	n, ok := new(big.Int).SetString(s, 10)
	if !ok {
		return 0, api.ErrText
	}
	if n.Cmp(big.NewInt(api.MaxTime)) > 0 {
		return 0, api.ErrRange
	}
	return int(n.Int64()), api.OK
}

// meantUpto tells by definition what Upto must answer: of all beginnings that are digits of a number the longest one.
func meantUpto(s string) (int, string) {
	n, rest := 0, s
	for at := range len(s) + 1 {
		if k, e := meant(s[:at]); e == api.OK {
			n, rest = k, s[at:]
		}
	}
	return n, rest
}

// Nu1: a number's digits.
func TestPutNumber(t *testing.T) {
	for _, n := range numbers() {
		if s, e := Put(n); s != strconv.Itoa(n) || e != api.OK {
			t.Errorf("Put(%d) = %q, %d", n, s, e)
		}
	}
	if s, e := Put(0); s != "0" || e != api.OK {
		t.Errorf("Put(0) = %q, %d", s, e)
	}
	if s, e := Put(api.MaxTime); s != mostText || e != api.OK {
		t.Errorf("Put(MaxTime) = %q, %d", s, e)
	}
}

// Nu1: what is no number is refused, with no text.
func TestPutNoNumber(t *testing.T) {
	for _, n := range noNumbers() {
		if s, e := Put(n); s != "" || e != api.ErrRange {
			t.Errorf("Put(%d) = %q, %d", n, s, e)
		}
	}
}

// Nu1: digits are read, up to MaxTime, and one more is refused.
func TestGetNumber(t *testing.T) {
	for _, n := range numbers() {
		if k, e := Get(strconv.Itoa(n)); k != n || e != api.OK {
			t.Errorf("Get(%d) = %d, %d", n, k, e)
		}
	}
	if n, e := Get(mostText); n != api.MaxTime || e != api.OK {
		t.Errorf("Get(MaxTime) = %d, %d", n, e)
	}
	for _, s := range []string{aboveText, "11258999068426240", "9999999999999999", "18446744073709551617", strings.Repeat("1", 1000)} {
		if n, e := Get(s); n != 0 || e != api.ErrRange {
			t.Errorf("Get(%q) = %d, %d", s, n, e)
		}
	}
}

// Nu1: what is no digits is refused, also where it would be too great besides.
func TestGetNoDigits(t *testing.T) {
	for _, s := range []string{
		"", " ", "-", "+", "-1", "+1", "-0", " 1", "1 ", "1\n", "1.0", "1e3", "0x1", "1_0", "a", "12ab", "1\x00", "/", ":", "1/", "1:", "/1", ":1",
		"00", "05", "010", "000000", "0" + mostText, "0" + strings.Repeat("9", 100),
		strings.Repeat("9", 100) + "x", aboveText + " ", "x" + aboveText,
		"\u0661", "1\u0661", "\uff11", "\xff", "1\xff",
	} {
		if n, e := Get(s); n != 0 || e != api.ErrText {
			t.Errorf("Get(%q) = %d, %d", s, n, e)
		}
	}
}

// Nu1: no byte but a digit is read, at no place.
func TestGetEachByte(t *testing.T) {
	for b := range 256 {
		c := string([]byte{byte(b)})
		digit := strings.Contains("0123456789", c)
		for _, s := range []string{c, "1" + c, "1" + c + "2"} {
			if n, e := Get(s); digit != (e == api.OK) || !digit && (n != 0 || e != api.ErrText) {
				t.Errorf("Get(%q) = %d, %d", s, n, e)
			}
		}
	}
}

// Nu1: blanks ahead, as many as are asked for, 40 bytes at most, and never fewer than the digits.
func TestPad(t *testing.T) {
	for _, c := range []struct {
		n, wide int
		want    string
	}{
		{7, 3, "  7"}, {0, 0, "0"}, {0, 1, "0"}, {0, 2, " 0"}, {105, 2, "105"}, {105, 3, "105"}, {105, 4, " 105"},
		{5, -1, "5"}, {5, math.MinInt, "5"}, {105, math.MinInt + 1, "105"},
		{5, 39, strings.Repeat(" ", 38) + "5"}, {5, 40, strings.Repeat(" ", 39) + "5"}, {5, 41, strings.Repeat(" ", 39) + "5"},
		{5, math.MaxInt, strings.Repeat(" ", 39) + "5"}, {105, 1 << 40, strings.Repeat(" ", 37) + "105"},
		{api.MaxTime, 0, mostText}, {api.MaxTime, 15, mostText}, {api.MaxTime, 16, mostText}, {api.MaxTime, 17, " " + mostText},
		{api.MaxTime, 50, strings.Repeat(" ", 24) + mostText},
	} {
		if s := Pad(c.n, c.wide); s != c.want {
			t.Errorf("Pad(%d, %d) = %q", c.n, c.wide, s)
		}
	}
}

// Nu1: of no number ? stands for the digits.
func TestPadNoNumber(t *testing.T) {
	for _, n := range noNumbers() {
		for _, c := range []struct {
			wide  int
			blank int
		}{{math.MinInt, 0}, {-1, 0}, {0, 0}, {1, 0}, {2, 1}, {40, 39}, {41, 39}, {math.MaxInt, 39}} {
			if s := Pad(n, c.wide); s != strings.Repeat(" ", c.blank)+"?" {
				t.Errorf("Pad(%d, %d) = %q", n, c.wide, s)
			}
		}
	}
}

// Nu2: the number that a text begins with, and what is left.
func TestUpto(t *testing.T) {
	for _, c := range []struct {
		s    string
		n    int
		rest string
	}{
		{"12ab", 12, "ab"}, {"12", 12, ""}, {"12 34", 12, " 34"}, {"1.5", 1, ".5"}, {"10", 10, ""}, {"100x", 100, "x"},
		{"0", 0, ""}, {"00", 0, "0"}, {"05", 0, "5"}, {"007", 0, "07"}, {"0x", 0, "x"},
		{"", 0, ""}, {"ab", 0, "ab"}, {" 1", 0, " 1"}, {"-1", 0, "-1"}, {"+1", 0, "+1"}, {"\xff1", 0, "\xff1"}, {"/1", 0, "/1"}, {":1", 0, ":1"},
		{mostText, api.MaxTime, ""}, {mostText + "x", api.MaxTime, "x"}, {mostText + "0", api.MaxTime, "0"}, {mostText + "99", api.MaxTime, "99"},
		{aboveText, 112589990684262, "5"}, {aboveText + "7x", 112589990684262, "57x"}, {"9999999999999999", 999999999999999, "9"},
		{strings.Repeat("9", 100), 999999999999999, strings.Repeat("9", 85)},
		{"1" + strings.Repeat("0", 100), 1000000000000000, strings.Repeat("0", 85)},
	} {
		if n, rest := Upto(c.s); n != c.n || rest != c.rest {
			t.Errorf("Upto(%q) = %d, %q", c.s, n, rest)
		}
	}
}

// Nu1, Nu2: all short texts, and those near MaxTime, are answered as by definition.
func TestByDefinition(t *testing.T) {
	for _, s := range append(texts("0189/:a -+", 5), aroundMost()...) {
		checkMeant(t, s)
	}
}

func checkMeant(t *testing.T, s string) {
	n, e := Get(s)
	if k, f := meant(s); n != k || e != f {
		t.Errorf("Get(%q) = %d, %d; meant: %d, %d", s, n, e, k, f)
	}
	n, rest := Upto(s)
	if k, left := meantUpto(s); n != k || rest != left {
		t.Errorf("Upto(%q) = %d, %q; meant: %d, %q", s, n, rest, k, left)
	}
}

// Nu3: what is put is got, and begins any text that goes on without a digit.
func TestPutIsGot(t *testing.T) {
	for _, n := range numbers() {
		s, _ := Put(n)
		if k, e := Get(s); k != n || e != api.OK {
			t.Errorf("Get(Put(%d)) = %d, %d", n, k, e)
		}
		if k, rest := Upto(s + "x1"); k != n || rest != "x1" {
			t.Errorf("Upto of %d's digits = %d, %q", n, k, rest)
		}
	}
}

// Nu3: a text that is got is just that which is put.
func TestNoOtherText(t *testing.T) {
	for _, s := range append(texts("0129 +-.", 5), aroundMost()...) {
		checkNoOther(t, s)
	}
}

func checkNoOther(t *testing.T, s string) {
	n, e := Get(s)
	if e != api.OK {
		return
	}
	if put, f := Put(n); put != s || f != api.OK {
		t.Errorf("%q is got as %d, whose digits are %q", s, n, put)
	}
}

// Nu1 to Nu3 of any texts: go test -fuzz=FuzzText ./num.
func FuzzText(f *testing.F) {
	for _, s := range aroundMost() {
		f.Add(s)
	}
	f.Fuzz(func(t *testing.T, s string) {
		checkMeant(t, s)
		checkNoOther(t, s)
	})
}
