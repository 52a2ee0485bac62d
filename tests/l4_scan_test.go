package tests

import (
	"fmt"
	"regexp"
	"strconv"
	"strings"
	"testing"

	"loop.example/g00825/impl"
)

// mostOf is the greatest place of a range, and the most lines that it has.
const mostOf = 999

// oneForm matches what is a number: no 0 ahead of others, four digits at most.
var oneForm = regexp.MustCompile(`\A(0|[1-9][0-9]{0,3})\z`)

// two is what a text of numbers is read as.
type two struct {
	n, m int
	ok   bool
}

func readPair(s string) two  { n, m, ok := impl.ReadPair(s); return two{n, m, ok} }
func readCount(s string) two { n, m, ok := impl.ReadCount(s); return two{n, m, ok} }
func readEnd(s string) two   { n, m, ok := impl.ReadEnd(s); return two{n, m, ok} }

// checkRead expects what each of the three functions reads; the zero value is that it is none.
func checkRead(t *testing.T, s string, pair, count, end two) {
	t.Helper()
	if got := readPair(s); got != pair {
		t.Errorf("ReadPair(%.40q) = %v, not %v", s, got, pair)
	}
	if got := readCount(s); got != count {
		t.Errorf("ReadCount(%.40q) = %v, not %v", s, got, count)
	}
	if got := readEnd(s); got != end {
		t.Errorf("ReadEnd(%.40q) = %v, not %v", s, got, end)
	}
}

// checkTexts expects what the three functions write of a range.
func checkTexts(t *testing.T, from, many int, pair, count string) {
	t.Helper()
	if s, ok := impl.PairText(from, many); s != pair || !ok {
		t.Errorf("PairText(%d, %d) = %q, %v, not %q", from, many, s, ok, pair)
	}
	if s, ok := impl.EndText(from, many); s != pair || !ok {
		t.Errorf("EndText(%d, %d) = %q, %v, not %q", from, many, s, ok, pair)
	}
	if s, ok := impl.CountText(from, many); s != count || !ok {
		t.Errorf("CountText(%d, %d) = %q, %v, not %q", from, many, s, ok, count)
	}
}

// textsOf are a range's texts: that of its first and last line, and that of how many they are.
func textsOf(from, many int) (string, string) {
	switch many {
	case 0:
		return fmt.Sprint(from), fmt.Sprintf("%d,0", from)
	case 1:
		return fmt.Sprint(from + 1), fmt.Sprint(from + 1)
	}
	return fmt.Sprintf("%d,%d", from+1, from+many), fmt.Sprintf("%d,%d", from+1, many)
}

// pairOf is what two numbers are read as by ReadPair; with fall 1 it is what ReadEnd reads.
func pairOf(n, m, fall int) two {
	if n > 1000 || m > 1000 || m < n-fall {
		return two{}
	}
	return two{n, m, true}
}

// countOf is the range with a first number and so many lines.
func countOf(n, many int) two {
	from := n - 1
	if many == 0 {
		from = n
	}
	if from < 0 || from > mostOf || many > mostOf {
		return two{}
	}
	return two{from, many, true}
}

func TestReadNumber(t *testing.T) {
	for n := range 10000 {
		if got, ok := impl.ReadNumber(strconv.Itoa(n)); got != n || !ok {
			t.Errorf("ReadNumber of %d = %d, %v", n, got, ok)
		}
	}
}

func checkNumber(t *testing.T, s string) {
	t.Helper()
	n, ok := impl.ReadNumber(s)
	if !oneForm.MatchString(s) {
		if n != 0 || ok {
			t.Errorf("ReadNumber(%q) = %d, %v", s, n, ok)
		}
		return
	}
	if want, err := strconv.Atoi(s); err != nil || n != want || !ok {
		t.Errorf("ReadNumber(%q) = %d, %v", s, n, ok)
	}
}

func TestReadNumberOfEachByte(t *testing.T) {
	for first := range 256 {
		one := string([]byte{byte(first)})
		checkNumber(t, one)
		for second := range 256 {
			checkNumber(t, one+string([]byte{byte(second)}))
		}
		for at := range 5 {
			four := []byte("1204")
			if at < 4 {
				four[at] = byte(first)
			} else {
				four = append(four, byte(first))
			}
			checkNumber(t, string(four))
		}
	}
}

func TestReadNumberOfShortTexts(t *testing.T) {
	for _, w := range wordsUpTo([]string{"0", "1", "9", "-", "+", " ", ",", "x"}, 5) {
		checkNumber(t, strings.Join(w, ""))
	}
}

func TestRangeTexts(t *testing.T) {
	cases := []struct {
		from, many  int
		pair, count string
	}{
		{0, 0, "0", "0,0"},
		{0, 1, "1", "1"},
		{0, 2, "1,2", "1,2"},
		{0, 3, "1,3", "1,3"},
		{0, 999, "1,999", "1,999"},
		{1, 0, "1", "1,0"},
		{1, 1, "2", "2"},
		{1, 2, "2,3", "2,2"},
		{2, 0, "2", "2,0"},
		{2, 3, "3,5", "3,3"},
		{1, 999, "2,1000", "2,999"},
		{2, 999, "3,1001", "3,999"},
		{8, 2, "9,10", "9,2"},
		{9, 0, "9", "9,0"},
		{9, 1, "10", "10"},
		{99, 10, "100,109", "100,10"},
		{998, 2, "999,1000", "999,2"},
		{999, 0, "999", "999,0"},
		{999, 1, "1000", "1000"},
		{999, 2, "1000,1001", "1000,2"},
		{999, 999, "1000,1998", "1000,999"},
	}
	for _, c := range cases {
		checkTexts(t, c.from, c.many, c.pair, c.count)
	}
}

func TestEveryRangeIsReadBack(t *testing.T) {
	// What is wrong with one place is so with most; it need not be told of each.
	for from := 0; from <= mostOf && !t.Failed(); from++ {
		for many := range mostOf + 1 {
			pair, count := textsOf(from, many)
			checkTexts(t, from, many, pair, count)
			if got := readCount(count); got != (two{from, many, true}) {
				t.Errorf("ReadCount(%q) = %v, not %d, %d", count, got, from, many)
			}
			n, m := from+1, from+many
			if many == 0 {
				n = from
			}
			if got, want := readPair(pair), pairOf(n, m, 0); got != want {
				t.Errorf("ReadPair(%q) = %v, not %v", pair, got, want)
			}
			if got, want := readEnd(pair), pairOf(n, m, 0); got != want {
				t.Errorf("ReadEnd(%q) = %v, not %v", pair, got, want)
			}
		}
		s, _ := impl.CountText(from, 1)
		if got := readCount(s + ",1"); got != (two{from, 1, true}) {
			t.Errorf("ReadCount(%q) = %v", s+",1", got)
		}
	}
}

func TestReadOneNumber(t *testing.T) {
	for n := range 10000 {
		alone := pairOf(n, n, 0)
		checkRead(t, strconv.Itoa(n), alone, countOf(n, 1), alone)
	}
	checkRead(t, "0", two{0, 0, true}, two{}, two{0, 0, true})
	checkRead(t, "1", two{1, 1, true}, two{0, 1, true}, two{1, 1, true})
	checkRead(t, "1000", two{1000, 1000, true}, two{999, 1, true}, two{1000, 1000, true})
	checkRead(t, "1001", two{}, two{}, two{})
}

func TestReadTwoNumbers(t *testing.T) {
	var some []int
	for n := range 120 {
		some = append(some, n)
	}
	for n := 980; n < 1021; n++ {
		some = append(some, n)
	}
	some = append(some, 200, 500, 501, 1998, 1999, 2000, 9998, 9999)
	for _, n := range some {
		for _, m := range some {
			s := fmt.Sprintf("%d,%d", n, m)
			checkRead(t, s, pairOf(n, m, 0), countOf(n, m), pairOf(n, m, 1))
		}
	}
}

func TestReadTwoNumbersByHand(t *testing.T) {
	cases := []struct {
		text             string
		pair, count, end two
	}{
		{"0,0", two{0, 0, true}, two{0, 0, true}, two{0, 0, true}},
		{"0,1", two{0, 1, true}, two{}, two{0, 1, true}},
		{"0,5", two{0, 5, true}, two{}, two{0, 5, true}},
		{"1,0", two{}, two{1, 0, true}, two{1, 0, true}},
		{"1,1", two{1, 1, true}, two{0, 1, true}, two{1, 1, true}},
		{"3,5", two{3, 5, true}, two{2, 5, true}, two{3, 5, true}},
		{"3,3", two{3, 3, true}, two{2, 3, true}, two{3, 3, true}},
		{"3,2", two{}, two{2, 2, true}, two{3, 2, true}},
		{"3,1", two{}, two{2, 1, true}, two{}},
		{"3,0", two{}, two{3, 0, true}, two{}},
		{"2,0", two{}, two{2, 0, true}, two{}},
		{"10,9", two{}, two{9, 9, true}, two{10, 9, true}},
		{"9,10", two{9, 10, true}, two{8, 10, true}, two{9, 10, true}},
		{"999,0", two{}, two{999, 0, true}, two{}},
		{"1000,0", two{}, two{}, two{}},
		{"1,999", two{1, 999, true}, two{0, 999, true}, two{1, 999, true}},
		{"1,1000", two{1, 1000, true}, two{}, two{1, 1000, true}},
		{"1,1001", two{}, two{}, two{}},
		{"1000,1", two{}, two{999, 1, true}, two{}},
		{"1000,999", two{}, two{999, 999, true}, two{1000, 999, true}},
		{"1000,1000", two{1000, 1000, true}, two{}, two{1000, 1000, true}},
		{"1000,1001", two{}, two{}, two{}},
		{"1001,1000", two{}, two{}, two{}},
		{"1001,1", two{}, two{}, two{}},
		{"1001,1001", two{}, two{}, two{}},
		{"9999,9998", two{}, two{}, two{}},
	}
	for _, c := range cases {
		checkRead(t, c.text, c.pair, c.count, c.end)
	}
}

// readBy is what a text with one comma at most is read as, by what its parts are.
func readBy(s string) (pair, count, end two) {
	parts := strings.Split(s, ",")
	for _, p := range parts {
		if !oneForm.MatchString(p) {
			return
		}
	}
	n, _ := strconv.Atoi(parts[0])
	switch len(parts) {
	case 1:
		return pairOf(n, n, 0), countOf(n, 1), pairOf(n, n, 0)
	case 2:
		m, _ := strconv.Atoi(parts[1])
		return pairOf(n, m, 0), countOf(n, m), pairOf(n, m, 1)
	}
	return
}

func TestReadShortTexts(t *testing.T) {
	for _, w := range wordsUpTo([]string{"0", "1", "2", ",", "-", "x"}, 6) {
		s := strings.Join(w, "")
		pair, count, end := readBy(s)
		checkRead(t, s, pair, count, end)
	}
}
