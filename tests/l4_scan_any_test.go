package tests

import (
	"math"
	"strings"
	"testing"

	"loop.example/g00825/impl"
)

// checkNoNumbers expects each function that reads a pair or a range to answer with nothing.
func checkNoNumbers(t *testing.T, s string) {
	t.Helper()
	checkRead(t, s, two{}, two{}, two{})
}

// checkNoRange expects each function that writes a range to answer with nothing.
func checkNoRange(t *testing.T, from, many int) {
	t.Helper()
	writers := map[string]func(int, int) (string, bool){
		"PairText": impl.PairText, "CountText": impl.CountText, "EndText": impl.EndText,
	}
	for name, f := range writers {
		if s, ok := f(from, many); s != "" || ok {
			t.Errorf("%s(%d, %d) = %q, %v", name, from, many, s, ok)
		}
	}
}

// noNumbers are texts none of which is a number, by what is wrong with them.
func noNumbers() map[string][]string {
	return map[string][]string{
		"empty":                {""},
		"a 0 ahead":            {"00", "01", "012", "0012", "000", "0000", "0999", "00000"},
		"five digits and more": {"10000", "12345", "99999", "65537", "4294967297", "18446744073709551617"},
		"a sign":               {"+1", "-1", "-0", "+0", "+", "-", "--1", "1-", "1+", "+999", "-999"},
		"a blank":              {" ", " 1", "1 ", "1 2", "\t1", "1\n", "\n1", "1\r\n", "\u00a01", "1\v"},
		"another byte":         {"x", "a1", "1a", "1x2", "1.0", "1.", ".5", "1e2", "0x1", "0b1", "0o7", "1_0", "1;2", "1/", "1:", "\x00", "1\x00", "\x001", "\xff", "1\xff", "nil"},
		"digits of others":     {"\u0661", "\uff11", "\u00b2", "1\u0662", "\u2460"},
		"much too long":        {strings.Repeat("0", 100000), strings.Repeat("1", 100000), "1" + strings.Repeat(" ", 100000)},
	}
}

func TestWhatIsNoNumberGetsTheZeroAnswer(t *testing.T) {
	for name, texts := range noNumbers() {
		for _, s := range texts {
			if n, ok := impl.ReadNumber(s); n != 0 || ok {
				t.Errorf("%s: ReadNumber(%.40q) = %d, %v", name, s, n, ok)
			}
			checkNoNumbers(t, s)
			checkNoNumbers(t, s+",1")
			checkNoNumbers(t, s+",0")
			checkNoNumbers(t, "1,"+s)
			checkNoNumbers(t, s+","+s)
		}
	}
}

func TestCommasThatAreNotBetweenTwo(t *testing.T) {
	texts := []string{
		",", ",,", "1,", ",1", ",0", "0,", "1,,", ",,1", "1,,1", "1,,2", ",1,", "1,2,", ",1,2",
		"1,1,1", "1,2,3", "3,2,1", "3,2,2", "3,1,1", "2,0,1", "0,0,0", "1, 2", "1 ,2", " 1,2", "1,2 ", "1,2\n",
		"1;2", "1.2", "1-2", "1 2", "1\u201a2", "1\uff0c2", "1,-1", "-1,1", "+1,2", "1,+2", "1,-0", "01,2", "1,02", "00,0", "0,00", "1,01",
		strings.Repeat(",", 100000), strings.Repeat("1,", 100000), "1," + strings.Repeat("2", 100000),
	}
	for _, s := range texts {
		checkNoNumbers(t, s)
	}
	for _, s := range []string{"1,2", "0,0", "1,", ",1", ",", "1,,1"} {
		if n, ok := impl.ReadNumber(s); n != 0 || ok {
			t.Errorf("ReadNumber(%q) = %d, %v", s, n, ok)
		}
	}
}

func TestWhatIsNoRangeGetsTheZeroAnswer(t *testing.T) {
	good := []int{0, 1, 2, 500, mostOf}
	bad := []int{math.MinInt, math.MinInt + 1, math.MinInt32, -1000, -2, -1, mostOf + 1, 1001, 9999, 10000, math.MaxInt32, math.MaxInt - 1, math.MaxInt}
	for _, b := range bad {
		for _, g := range good {
			checkNoRange(t, b, g)
			checkNoRange(t, g, b)
		}
		for _, other := range bad {
			checkNoRange(t, b, other)
		}
	}
	for _, from := range good {
		for _, many := range good {
			pair, count := textsOf(from, many)
			checkTexts(t, from, many, pair, count)
		}
	}
}

func TestNoNumberIsKept(t *testing.T) {
	for range 3 {
		checkTexts(t, 2, 3, "3,5", "3,3")
		checkNoRange(t, -1, 1)
		checkRead(t, "4,3", two{}, two{3, 3, true}, two{4, 3, true})
		checkNoNumbers(t, "4,x")
		if n, ok := impl.ReadNumber("12"); n != 12 || !ok {
			t.Errorf("ReadNumber of 12 = %d, %v", n, ok)
		}
		if n, ok := impl.ReadNumber("x"); n != 0 || ok {
			t.Errorf("ReadNumber of x = %d, %v", n, ok)
		}
		checkNoNumbers(t, "5,3,3")
	}
}

// A text is part of a larger one here: what lies around it is not read.
func TestWhatIsAroundATextIsNotRead(t *testing.T) {
	whole := "1203,405"
	for from := range whole {
		for to := from; to <= len(whole); to++ {
			s := whole[from:to]
			pair, count, end := readBy(s)
			checkRead(t, s, pair, count, end)
			checkNumber(t, s)
		}
	}
}
