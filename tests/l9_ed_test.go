package tests

import (
	"fmt"
	"regexp"
	"slices"
	"strconv"
	"strings"
	"testing"

	"loop.example/g00825/impl"
)

type orders = []impl.Order

// mostOrders is how many orders there may be.
const mostOrders = 60

const dotAlone, twoDots = ".\n", "..\n"

func addAt(n int, l ...string) impl.Order {
	return impl.Order{Kind: impl.OdAdd, From: n, To: n, New: l}
}

func putAt(n int, l ...string) impl.Order {
	return impl.Order{Kind: impl.OdPut, From: n, To: n, New: l}
}

func changeFrom(from, to int, l ...string) impl.Order {
	return impl.Order{Kind: impl.OdChange, From: from, To: to, New: l}
}

func dropFrom(from, to int) impl.Order {
	return impl.Order{Kind: impl.OdDrop, From: from, To: to}
}

func fixAt(n int) impl.Order {
	return impl.Order{Kind: impl.OdFix, From: n, To: n}
}

func alikeOrders(a, b orders) bool {
	return slices.EqualFunc(a, b, func(j, k impl.Order) bool {
		return j.Kind == k.Kind && j.From == k.From && j.To == k.To && slices.Equal(j.New, k.New)
	})
}

func bringsLines(kind int) bool {
	return kind == impl.OdAdd || kind == impl.OdPut || kind == impl.OdChange
}

// isWholeLine says whether an order may bring a line.
func isWholeLine(line string) bool {
	return len(line) <= impl.MaxLine && line != "" && strings.IndexByte(line, '\n') == len(line)-1 && line != dotAlone
}

// isGoodOrder says it of one order.
func isGoodOrder(k impl.Order) bool {
	least := 1
	if k.Kind == impl.OdAdd {
		least = 0
	}
	if k.Kind < impl.OdAdd || k.Kind > impl.OdFix || k.From < least || k.To < k.From || k.To > mostNumber {
		return false
	}
	if k.From != k.To && k.Kind != impl.OdChange && k.Kind != impl.OdDrop {
		return false
	}
	for _, line := range k.New {
		if !isWholeLine(line) {
			return false
		}
	}
	return bringsLines(k.Kind) == (len(k.New) > 0) && len(k.New) <= impl.MaxLines
}

func areGoodOrders(o orders) bool {
	return len(o) <= mostOrders && !slices.ContainsFunc(o, func(k impl.Order) bool { return !isGoodOrder(k) })
}

func orderWord(kind int) string {
	return map[int]string{impl.OdAdd: "a", impl.OdPut: "i", impl.OdChange: "c", impl.OdDrop: "d", impl.OdFix: "s/.//"}[kind]
}

// textOfOrders is what is written of orders, good or not.
func textOfOrders(o orders) string {
	var text strings.Builder
	for _, k := range o {
		text.WriteString(numbersOf(k.From, k.To) + orderWord(k.Kind) + "\n" + strings.Join(k.New, ""))
		if bringsLines(k.Kind) {
			text.WriteString(dotAlone)
		}
	}
	return text.String()
}

// orderForm matches the first line of an order; whether its numbers are such is told by oneForm.
var orderForm = regexp.MustCompile(`\A([0-9]+)(?:,([0-9]+))?(a|i|c|d|s/\.//)\n`)

// linesAndDot cuts a text behind the first line that is a dot alone.
func linesAndDot(text string) (lines []string, rest string, ok bool) {
	for text != "" {
		line, behind, ended := strings.Cut(text, "\n")
		if line == "." {
			return lines, behind, ended
		}
		lines, text = append(lines, line+"\n"), behind
	}
	return nil, "", false
}

// ordersIn is what a text is read as: order by order, each number and line held against what it has to be.
func ordersIn(text string) (orders, bool) {
	if len(text) > impl.MaxPatch {
		return nil, false
	}
	var o orders
	for text != "" {
		m := orderForm.FindStringSubmatch(text)
		if m == nil || !oneForm.MatchString(m[1]) || m[2] != "" && !oneForm.MatchString(m[2]) || m[1] == m[2] {
			return nil, false
		}
		text = text[len(m[0]):]
		k := impl.Order{Kind: 1 + slices.Index([]string{"a", "i", "c", "d", "s/.//"}, m[3])}
		k.From, _ = strconv.Atoi(m[1])
		k.To = k.From
		if m[2] != "" {
			k.To, _ = strconv.Atoi(m[2])
		}
		ended := true
		if bringsLines(k.Kind) {
			k.New, text, ended = linesAndDot(text)
		}
		if !ended || !isGoodOrder(k) {
			return nil, false
		}
		o = append(o, k)
	}
	return o, len(o) <= mostOrders
}

var toEditor = reading[impl.Order]{impl.ReadOrders, ordersIn, alikeOrders}

// runBy is what good orders make of good lines, and the code, found line by line.
func runBy(l []string, o orders) ([]string, int) {
	text := slices.Clone(l)
	if n := len(text); n > 0 {
		text[n-1] = strings.TrimSuffix(text[n-1], "\n") + "\n"
	}
	for _, k := range o {
		if k.From > len(text) || k.To > len(text) {
			return nil, impl.PtFar
		}
		var made []string
		for n := 0; n <= len(text); n++ {
			here := n == k.From
			if here && (k.Kind == impl.OdPut || k.Kind == impl.OdChange) {
				made = append(made, k.New...)
			}
			switch {
			case n == 0 || k.From <= n && n <= k.To && (k.Kind == impl.OdChange || k.Kind == impl.OdDrop):
			case here && k.Kind == impl.OdFix:
				if line := text[n-1]; line[0] != '.' || len(line) == 2 {
					return nil, impl.PtOther
				}
				made = append(made, text[n-1][1:])
			default:
				made = append(made, text[n-1])
			}
			if here && k.Kind == impl.OdAdd {
				made = append(made, k.New...)
			}
		}
		text = made
	}
	if !impl.GoodLines(text) {
		return nil, impl.PtOther
	}
	return text, 0
}

// isWholeText says of good lines whether each one has its end.
func isWholeText(l []string) bool {
	return !slices.ContainsFunc(l, func(line string) bool { return !strings.HasSuffix(line, "\n") })
}

// edBy are the orders that do what hunks do.
func edBy(h hunks) orders {
	var o orders
	for _, k := range slices.Backward(h) {
		var told []string
		var fixes orders
		for i, line := range k.New {
			if line == dotAlone {
				line, fixes = twoDots, append(fixes, fixAt(k.At+1+i))
			}
			told = append(told, line)
		}
		first := addAt(k.At, told...)
		if k.Gone > 0 {
			first = changeFrom(k.At+1, k.At+k.Gone, told...)
		}
		if len(told) == 0 {
			first = dropFrom(k.At+1, k.At+k.Gone)
		}
		o = slices.Concat(o, orders{first}, fixes)
	}
	return o
}

// checkOrders expects orders to be good, to be written as that text, and to be read from it.
func checkOrders(t *testing.T, name string, o orders, text string) {
	t.Helper()
	if !impl.GoodOrders(o) || !areGoodOrders(o) {
		t.Errorf("%s: not good: %v", name, o)
	}
	if s, ok := impl.OrdersText(o); s != text || !ok {
		t.Errorf("%s: OrdersText(%v) = %q, %v, not %q", name, o, s, ok, text)
	}
	toEditor.checkTo(t, name, text, o)
}

// checkRun expects what both functions tell that do orders to good lines.
func checkRun(t *testing.T, name string, l []string, o orders, want []string, code int) {
	t.Helper()
	if made, got, ok := impl.RunOrders(l, o); !slices.Equal(made, want) || got != code || !ok {
		t.Errorf("%s: RunOrders(%q, %v) = %q, %d, %v, not %q, %d", name, l, o, made, got, ok, want, code)
	}
	if made, got := runBy(l, o); !slices.Equal(made, want) || got != code {
		t.Errorf("%s: the model makes of %q by %v %q, %d, not %q, %d", name, l, o, made, got, want, code)
	}
	h, got, ok := impl.OrdersHunks(l, o)
	if !isWholeText(l) {
		if len(h) != 0 || got != 0 || ok {
			t.Errorf("%s: OrdersHunks(%q, %v) = %#v, %d, %v", name, l, o, h, got, ok)
		}
		return
	}
	var diff hunks
	if code == 0 {
		diff, _ = impl.DiffHunks(l, want)
	}
	if !alike(h, diff) || got != code || !ok {
		t.Errorf("%s: OrdersHunks(%q, %v) = %#v, %d, %v, not %#v, %d", name, l, o, h, got, ok, diff, code)
	}
}

// checkRunAsModel expects of good lines and good orders what the model tells, and answers with the code.
func checkRunAsModel(t *testing.T, name string, l []string, o orders) int {
	t.Helper()
	made, code := runBy(l, o)
	checkRun(t, name, l, o, made, code)
	return code
}

// checkEd expects hunks that can be done to lines with their ends to be these orders, and those to do what they do.
func checkEd(t *testing.T, name string, l []string, h hunks, o orders, text string) {
	t.Helper()
	if got, ok := impl.EdOrders(l, h); !alikeOrders(got, o) || !ok {
		t.Errorf("%s: EdOrders(%q, %#v) = %v, %v, not %v", name, l, h, got, ok, o)
	}
	if s, ok := impl.EdText(l, h); s != text || !ok {
		t.Errorf("%s: EdText(%q, %#v) = %q, %v, not %q", name, l, h, s, ok, text)
	}
	checkOrders(t, name, o, text)
	made, ok := impl.Patch(l, h)
	if !ok {
		t.Errorf("%s: Patch(%q, %#v) tells false", name, l, h)
	}
	checkRun(t, name, l, o, made, 0)
}

// checkEdAsModel expects hunks to be the orders that the model tells, or none.
func checkEdAsModel(t *testing.T, name string, l []string, h hunks) {
	t.Helper()
	if made := plainOf(change(markedOf(l), h)); !impl.GoodLines(made) || !isWholeText(l) || !isWholeText(made) {
		checkNoEd(t, name, l, h)
		return
	}
	checkEd(t, name, l, h, edBy(h), textOfOrders(edBy(h)))
}

// checkNoEd expects no orders of lines and hunks.
func checkNoEd(t *testing.T, name string, l []string, h hunks) {
	t.Helper()
	if o, ok := impl.EdOrders(l, h); len(o) != 0 || ok {
		t.Errorf("%s: EdOrders(%q, %#v) = %v, %v", name, l, h, o, ok)
	}
	if s, ok := impl.EdText(l, h); s != "" || ok {
		t.Errorf("%s: EdText(%q, %#v) = %q, %v", name, l, h, s, ok)
	}
}

// orderCase is what orders are written as.
type orderCase struct {
	name string
	o    orders
	text string
}

func orderCases() []orderCase {
	like := []string{"..\n", ". \n", " .\n", "1d\n", "a\n", "s/.//\n", "\\ none\n", "\n", "\xff\x00\r\n", "./\n"}
	return []orderCase{
		{"no orders", nil, ""},
		{"one comes behind a line", orders{addAt(5, "y\n")}, "5a\ny\n.\n"},
		{"one comes ahead of all", orders{addAt(0, "y\n")}, "0a\ny\n.\n"},
		{"two come behind the last number", orders{addAt(1000, "x\n", "y\n")}, "1000a\nx\ny\n.\n"},
		{"one comes ahead of a line", orders{putAt(5, "y\n")}, "5i\ny\n.\n"},
		{"two come ahead of the first", orders{putAt(1, "x\n", "y\n")}, "1i\nx\ny\n.\n"},
		{"one comes ahead of the last number", orders{putAt(1000, "y\n")}, "1000i\ny\n.\n"},
		{"one for one", orders{changeFrom(4, 4, "x\n")}, "4c\nx\n.\n"},
		{"two for three", orders{changeFrom(4, 6, "x\n", "y\n")}, "4,6c\nx\ny\n.\n"},
		{"one for all numbers", orders{changeFrom(1, 1000, "x\n")}, "1,1000c\nx\n.\n"},
		{"one goes", orders{dropFrom(2, 2)}, "2d\n"},
		{"two go", orders{dropFrom(2, 3)}, "2,3d\n"},
		{"all numbers go", orders{dropFrom(1, 1000)}, "1,1000d\n"},
		{"the last number goes", orders{dropFrom(1000, 1000)}, "1000d\n"},
		{"a dot goes", orders{fixAt(2)}, "2s/.//\n"},
		{"a dot of the last number goes", orders{fixAt(1000)}, "1000s/.//\n"},
		{"one of each kind", orders{addAt(7, "a\n"), putAt(6, "b\n", "c\n"), changeFrom(4, 5, "d\n"), dropFrom(2, 3), fixAt(1)},
			"7a\na\n.\n6i\nb\nc\n.\n4,5c\nd\n.\n2,3d\n1s/.//\n"},
		{"in any order", orders{dropFrom(1, 1), dropFrom(1, 1), fixAt(9), addAt(0, "x\n"), fixAt(9)}, "1d\n1d\n9s/.//\n0a\nx\n.\n9s/.//\n"},
		{"lines like what is around them", orders{addAt(3, like...), changeFrom(2, 2, like...)},
			"3a\n" + strings.Join(like, "") + ".\n2c\n" + strings.Join(like, "") + ".\n"},
		{"a line of most bytes", orders{putAt(3, full(impl.MaxLine))}, "3i\n" + full(impl.MaxLine) + ".\n"},
		{"most lines", orders{changeFrom(3, 4, manyLines(impl.MaxLines)...)}, "3,4c\n" + strings.Repeat("l\n", impl.MaxLines) + ".\n"},
	}
}

func TestOrdersText(t *testing.T) {
	for _, c := range orderCases() {
		checkOrders(t, c.name, c.o, c.text)
		if got := textOfOrders(c.o); got != c.text {
			t.Errorf("%s: the model tells %q", c.name, got)
		}
	}
	checkOrders(t, "a list of no orders", orders{}, "")
	checkOrders(t, "no lines, told as a list of none", orders{{Kind: impl.OdDrop, From: 1, To: 2, New: []string{}}, {Kind: impl.OdFix, From: 1, To: 1, New: []string{}}}, "1,2d\n1s/.//\n")
}

// eachOrder are orders of each kind with these numbers and lines, and of kinds that are none.
func eachOrder(from, to int, l []string) orders {
	var all orders
	for _, kind := range []int{-1, 0, impl.OdAdd, impl.OdPut, impl.OdChange, impl.OdDrop, impl.OdFix, impl.OdFix + 1, 1000} {
		all = append(all, impl.Order{Kind: kind, From: from, To: to, New: l})
	}
	return all
}

// checkAnyOrder expects of an order what the model tells of it, whether it is good or not.
func checkAnyOrder(t *testing.T, name string, k impl.Order) bool {
	t.Helper()
	first, last := dropFrom(1, 1), addAt(0, "z\n")
	if !isGoodOrder(k) {
		for _, o := range []orders{{k}, {first, k}, {k, last}} {
			checkBadOrders(t, name, o)
		}
		return false
	}
	for _, o := range []orders{{k}, {first, k}, {k, last}} {
		checkOrders(t, name, o, textOfOrders(o))
	}
	return true
}

func TestGoodOrdersOfAllNumbers(t *testing.T) {
	numbers := []int{-1000, -1, 0, 1, 2, 3, 999, 1000, 1001, 2000}
	good := map[int]int{}
	for _, from := range numbers {
		for _, to := range numbers {
			for _, l := range [][]string{nil, {"x\n"}, {"x\n", "y\n"}} {
				for _, k := range eachOrder(from, to, l) {
					if checkAnyOrder(t, "numbers", k) {
						good[k.Kind]++
					}
				}
			}
		}
	}
	// From and To in 0..1000, or 1..1000, that are the same, or of which To is not less; two lists of lines, or one.
	want := map[int]int{impl.OdAdd: 6 * 2, impl.OdPut: 5 * 2, impl.OdChange: 15 * 2, impl.OdDrop: 15, impl.OdFix: 5}
	for kind, n := range want {
		if good[kind] != n || len(good) != len(want) {
			t.Errorf("%v are good, not %v", good, want)
		}
	}
}

func TestGoodOrdersOfAnyLines(t *testing.T) {
	long := full(impl.MaxLine)
	good := map[string][]string{
		"one":               {"x\n"},
		"most":              manyLines(impl.MaxLines),
		"an end alone":      {"\n"},
		"two dots":          {"..\n"},
		"three dots":        {"...\n", "..\n"},
		"a dot and more":    {".x\n", ". \n", ".\r\n"},
		"more and a dot":    {"x.\n", " .\n"},
		"a line of most":    {long, "x\n", long},
		"bytes of no runes": {"\xff\n", "\x00\n", "\xe2\n"},
	}
	bad := map[string][]string{
		"one more than most":  manyLines(impl.MaxLines + 1),
		"much more than most": manyLines(10000),
		"an empty one":        {""},
		"an empty one first":  {"", "x\n"},
		"an empty one last":   {"x\n", ""},
		"no end":              {"x"},
		"no end, first":       {"x", "y\n"},
		"no end, last":        {"x\n", "y"},
		"two ends":            {"x\n\n"},
		"two ends alone":      {"\n\n"},
		"an end within":       {"x\ny\n"},
		"an end first":        {"\nx"},
		"a dot alone":         {".\n"},
		"a dot alone, first":  {".\n", "x\n"},
		"a dot alone, within": {"x\n", ".\n", "y\n"},
		"a dot alone, last":   {"x\n", ".\n"},
		"a dot without end":   {"."},
		"such a dot, last":    {"x\n", "."},
		"too long":            {full(impl.MaxLine + 1)},
		"too long, last":      {"x\n", full(impl.MaxLine + 1)},
		"too long, no end":    {strings.Repeat("f", impl.MaxLine+1)},
		"most without an end": {strings.Repeat("f", impl.MaxLine)},
	}
	for name, l := range good {
		for _, k := range eachOrder(3, 3, l) {
			if checkAnyOrder(t, name, k) != bringsLines(k.Kind) {
				t.Errorf("%s: %v", name, k)
			}
		}
	}
	for name, l := range bad {
		for _, k := range eachOrder(3, 3, l) {
			if checkAnyOrder(t, name, k) {
				t.Errorf("%s: %v", name, k)
			}
		}
	}
	for _, k := range eachOrder(3, 3, nil) {
		if checkAnyOrder(t, "none", k) != (k.Kind == impl.OdDrop || k.Kind == impl.OdFix) {
			t.Errorf("no lines: %v", k)
		}
	}
}

func TestMostOrders(t *testing.T) {
	if mostOrders != 3*impl.MaxHunks {
		t.Fatalf("%d hunks", impl.MaxHunks)
	}
	each := orders{addAt(1, "x\n"), putAt(1, "x\n"), changeFrom(1, 1, "x\n"), dropFrom(1, 1), fixAt(1)}
	for _, k := range each {
		for n := mostOrders - 1; n <= mostOrders; n++ {
			o := slices.Repeat(orders{k}, n)
			checkOrders(t, "most", o, strings.Repeat(textOfOrders(orders{k}), n))
		}
		for _, n := range []int{mostOrders + 1, 2 * mostOrders} {
			more := slices.Repeat(orders{k}, n)
			checkBadOrders(t, "more than most", more)
			toEditor.checkNone(t, "more than most", textOfOrders(more))
		}
		checkBadOrders(t, "much more than most", slices.Repeat(orders{k}, 10000))
	}
	// With one line more than can be in the end they can not be done.
	adds, drops := slices.Repeat(orders{addAt(0, "x\n")}, 50), slices.Repeat(orders{dropFrom(1, 1)}, 10)
	checkRun(t, "most", nil, slices.Concat(adds, drops), slices.Repeat([]string{"x\n"}, 40), 0)
	checkRun(t, "most, one too many stays", nil, slices.Concat(adds, drops[1:]), nil, impl.PtOther)
}

// ordersOfBytes are good orders of which so many bytes are written.
func ordersOfBytes(t *testing.T, bytes int) orders {
	t.Helper()
	wide := slices.Repeat([]string{full(impl.MaxLine)}, impl.MaxLines)
	for n := range impl.MaxLines {
		o := orders{changeFrom(1, 2, wide...), addAt(9, wide...), putAt(1, append(wide[:n:n], "\n")...), dropFrom(3, 3), fixAt(8)}
		missing := bytes - len(textOfOrders(o))
		if missing >= 0 && missing < impl.MaxLine {
			o[2].New[n] = full(1 + missing)
			return o
		}
	}
	t.Fatalf("no orders of %d bytes", bytes)
	return nil
}

func TestOrdersTextOfMostBytes(t *testing.T) {
	for bytes := impl.MaxPatch - 40; bytes <= impl.MaxPatch; bytes++ {
		o := ordersOfBytes(t, bytes)
		if n := len(textOfOrders(o)); n != bytes {
			t.Fatalf("%d bytes, not %d", n, bytes)
		}
		checkOrders(t, "few enough bytes", o, textOfOrders(o))
	}
	for bytes := impl.MaxPatch + 1; bytes <= impl.MaxPatch+40; bytes++ {
		checkNoOrdersText(t, "too many bytes", ordersOfBytes(t, bytes))
	}
	wide := addAt(0, slices.Repeat([]string{full(impl.MaxLine)}, impl.MaxLines)...)
	checkNoOrdersText(t, "much too many bytes", slices.Repeat(orders{wide}, mostOrders))
	exact := ordersOfBytes(t, impl.MaxPatch)
	for _, more := range []string{"1d\n", "\n", "x", "\x00"} {
		toEditor.checkNone(t, "more behind most bytes", textOfOrders(exact)+more)
	}
	// Orders of which no text is told are good, and can be done.
	checkRun(t, "too many bytes", nil, slices.Repeat(orders{wide, dropFrom(1, impl.MaxLines)}, mostOrders/2), nil, 0)
}

// checkNoOrdersText expects good orders to have more bytes than a text may have.
func checkNoOrdersText(t *testing.T, name string, o orders) {
	t.Helper()
	if !impl.GoodOrders(o) || !areGoodOrders(o) {
		t.Errorf("%s: not good: %v", name, o)
	}
	if s, ok := impl.OrdersText(o); s != "" || ok {
		t.Errorf("%s: OrdersText of %d bytes = %.80q, %v", name, len(textOfOrders(o)), s, ok)
	}
	toEditor.checkNone(t, name, textOfOrders(o))
}

func TestTextsThatAreNoOrders(t *testing.T) {
	good := "4,5c\nx\ny\n.\n2d\n1s/.//\n"
	toEditor.checkTo(t, "the text itself", good, orders{changeFrom(4, 5, "x\n", "y\n"), dropFrom(2, 2), fixAt(1)})
	cases := map[string][]string{
		"two numbers for one":     {"1,1d\n", "1,1c\nx\n.\n", "1000,1000d\n", "0,0a\nx\n.\n", "1,1a\nx\n.\n", "1,1i\nx\n.\n", "1,1s/.//\n", "0,0d\n"},
		"a range of one line":     {"1,2a\nx\n.\n", "0,1a\nx\n.\n", "1,2i\nx\n.\n", "1,2s/.//\n", "0,1s/.//\n"},
		"numbers that fall":       {"2,1d\n", "2,1c\nx\n.\n", "3,1d\n", "1,0d\n", "1000,999d\n", "2,1a\nx\n.\n", "2,1i\nx\n.\n", "2,1s/.//\n"},
		"numbers beyond":          {"1001d\n", "1001a\nx\n.\n", "1001i\nx\n.\n", "1001c\nx\n.\n", "1001s/.//\n", "1,1001d\n", "1000,1001c\nx\n.\n", "9999d\n", "10000d\n", "1,10000d\n"},
		"number 0":                {"0d\n", "0i\nx\n.\n", "0c\nx\n.\n", "0s/.//\n", "0,1d\n", "0,5c\nx\n.\n"},
		"a 0 ahead":               {"01d\n", "00a\nx\n.\n", "1,02d\n", "01,2d\n", "001s/.//\n", "01a\nx\n.\n", "0001i\nx\n.\n"},
		"no number":               {"d\n", "a\nx\n.\n", "i\nx\n.\n", "c\nx\n.\n", "s/.//\n", ",d\n", "1,d\n", ",1d\n", "$d\n", ".d\n", "1,$d\n", "+d\n", "-d\n", "\n", "x\n"},
		"other numbers":           {"+1d\n", "-1d\n", "1.0d\n", "0x1d\n", "1,2,3d\n", "1;2d\n", "1-2d\n", "1,+2d\n", "1,-2d\n", "1_0d\n", "\xd9\xa1d\n", "1e2d\n"},
		"another letter":          {"1b\n", "1e\n", "1p\n", "1D\n", "1A\nx\n.\n", "1I\nx\n.\n", "1C\nx\n.\n", "1s\n", "1S/.//\n", "1q\n", "1\n", "1w\n", "1,2j\n", "1m2\n", "1x\nx\n.\n"},
		"something behind it":     {"1dd\n", "1d1\n", "1d,\n", "1dp\n", "1a1\nx\n.\n", "1ax\nx\n.\n", "1aa\nx\n.\n", "1c1\nx\n.\n", "1id\nx\n.\n", "1da\nx\n.\n", "1ad\n", "1s/.//g\n", "1s/.///\n", "1s/.//p\n", "1s/.//1\n", "1d.\n"},
		"another word for it":     {"1s/.//\n.\n", "1s/./\n", "1s/./x/\n", "1s/../.\n", "1s/..//\n", "1s/x//\n", "1s,.,,\n", "1s/\\.//\n", "1s//.//\n", "1s\n", "1s/\n", "1/.//\n", "s/.//1\n", "1s/.//1s/.//\n"},
		"a blank":                 {" 1d\n", "1 d\n", "1d \n", "1, 2d\n", "1 ,2d\n", "1\td\n", "1d\t\n", "1d\r\n", " 1a\nx\n.\n", "1 a\nx\n.\n", "1a \nx\n.\n", "1s/.// \n", "1 s/.//\n", "1s/. //\n", " \n", "1s / . / / \n"},
		"the dot missing":         {"1a\nx\n", "1i\nx\n", "1c\nx\n", "1a\n", "1a\nx\ny\n", "1a\nx\n..\n", "1a\nx\n. \n", "1a\nx\n .\n", "1a\nx\n.\r\n", "1a\nx.\n", "1a\nx\n.x\n", "1a\nx\n.1d\n"},
		"no lines":                {"1a\n.\n", "1i\n.\n", "1c\n.\n", "0a\n.\n", "1,2c\n.\n", "1a\n.\nx\n.\n"},
		"a dot where none is":     {".\n", "1d\n.\n", "1s/.//\n.\n", ".\n1d\n", "1a\nx\n.\n.\n", "1c\nx\n.\n.\n.\n", "..\n"},
		"lines where none are":    {"1d\nx\n.\n", "1s/.//\nx\n.\n", "1d\nx\n", "x\n.\n", "1a\nx\n.\nx\n", "1a\nx\n.\nx\n.\n"},
		"no end at the last line": {"1d", "1a\nx\n.", "1a\nx", "1a", "1s/.//", "1,2d", "1", "d", ".", "1c\nx\n.\n1d", "1d\n1d"},
		"too many lines":          {"1a\n" + strings.Repeat("l\n", 41) + ".\n", "1,9c\n" + strings.Repeat("l\n", 41) + ".\n", "1i\n" + strings.Repeat("\n", 1000) + ".\n"},
		"too long a line":         {"1a\n" + full(impl.MaxLine+1) + ".\n", "1i\nx\n" + full(impl.MaxLine+1) + ".\n", "1c\n" + full(1000) + "x\n.\n"},
		"other ends":              {"1d\r", "1d\r1d\r", "1d\x00", "1d;2d\n", "1a\rx\r.\r", "\n1d\n", "1d\n\n", "1d\n\n1d\n", "\xef\xbb\xbf1d\n"},
		"a way that is another":   {"1d0\n< a\n", "0a1\n> x\n", "1c1\n< a\n---\n> x\n", "@@ -1 +1 @@\n-a\n+x\n", goodSides, "w\n", "q\n", "1a1\n> x\n"},
	}
	for name, texts := range cases {
		for _, s := range texts {
			toEditor.checkNone(t, name, s)
			toEditor.checkNone(t, name+", behind other orders", good+s)
			// Where the dot is missing these are lines that come.
			toEditor.checkAny(t, s+good)
		}
	}
	for _, s := range []string{"\n", "x\n", "x", " ", ".\n", "1", "\x00"} {
		toEditor.checkNone(t, "a text behind", good+s)
		toEditor.checkNone(t, "a text ahead", s+good)
	}
}

func TestAllShortOrders(t *testing.T) {
	read := 0
	parts := []string{"0a\n", "1i\n", "1,2c\n", "2d\n", "1s/.//\n", "1,1d\n", "x\n", ".\n", "..\n"}
	for _, w := range wordsUpTo(parts, 5) {
		if toEditor.checkAny(t, strings.Join(w, "")) {
			read++
		}
	}
	if read < 200 {
		t.Errorf("only %d texts are read", read)
	}
}

// Each text that is nearly one of orders is read only where it is another one.
func TestOrdersThatAreNearlyRead(t *testing.T) {
	bytes := []string{"", "0", "1", "2", ",", "a", "i", "c", "d", "s", "/", ".", " ", "\n", "x", "\x00"}
	for _, c := range orderCases() {
		tryNearly(c.text, bytes, func(s string) { toEditor.checkAny(t, s) })
	}
}

// runCase is what orders make of lines.
type runCase struct {
	name string
	o    orders
	want []string
}

// placeCases have one order alone, at each place of the lines a to d.
func placeCases() []runCase {
	return []runCase{
		{"no orders", nil, linesBy("abcd")},
		{"one comes behind no line", orders{addAt(0, "x\n")}, linesBy("xabcd")},
		{"one comes behind the first", orders{addAt(1, "x\n")}, linesBy("axbcd")},
		{"two come behind one within", orders{addAt(2, "x\n", "y\n")}, linesBy("abxycd")},
		{"one comes behind the last", orders{addAt(4, "x\n")}, linesBy("abcdx")},
		{"one comes ahead of the first", orders{putAt(1, "x\n")}, linesBy("xabcd")},
		{"two come ahead of one within", orders{putAt(3, "x\n", "y\n")}, linesBy("abxycd")},
		{"one comes ahead of the last", orders{putAt(4, "x\n")}, linesBy("abcxd")},
		{"one for the first", orders{changeFrom(1, 1, "x\n")}, linesBy("xbcd")},
		{"one for two within", orders{changeFrom(2, 3, "x\n")}, linesBy("axd")},
		{"two for one within", orders{changeFrom(3, 3, "x\n", "y\n")}, linesBy("abxyd")},
		{"two for the last", orders{changeFrom(4, 4, "x\n", "y\n")}, linesBy("abcxy")},
		{"one for all", orders{changeFrom(1, 4, "x\n")}, linesBy("x")},
		{"the first goes", orders{dropFrom(1, 1)}, linesBy("bcd")},
		{"two within go", orders{dropFrom(2, 3)}, linesBy("ad")},
		{"the last goes", orders{dropFrom(4, 4)}, linesBy("abc")},
		{"all go", orders{dropFrom(1, 4)}, nil},
	}
}

// turnCases have several orders, each for the lines a to d as they are then.
func turnCases() []runCase {
	return []runCase{
		{"from the last to the first", orders{addAt(4, "x\n"), changeFrom(3, 3, "y\n"), dropFrom(1, 1)}, linesBy("bydx")},
		{"from the first to the last", orders{dropFrom(1, 1), changeFrom(3, 3, "y\n"), addAt(3, "x\n")}, linesBy("bcyx")},
		{"what came goes", orders{addAt(1, "x\n", "y\n"), dropFrom(2, 3)}, linesBy("abcd")},
		{"what came is others", orders{putAt(2, "x\n"), changeFrom(2, 2, "y\n")}, linesBy("aybcd")},
		{"one behind what came", orders{addAt(4, "x\n"), addAt(5, "y\n"), putAt(6, "z\n")}, linesBy("abcdxzy")},
		{"twice at one place", orders{addAt(1, "x\n"), addAt(1, "y\n")}, linesBy("ayxbcd")},
		{"twice ahead of one place", orders{putAt(1, "x\n"), putAt(1, "y\n")}, linesBy("yxabcd")},
		{"all go, and others come", orders{dropFrom(1, 4), addAt(0, "x\n"), addAt(1, "y\n")}, linesBy("xy")},
		{"the same goes each time", orders{dropFrom(1, 1), dropFrom(1, 1), dropFrom(1, 1)}, linesBy("d")},
		{"a dot goes of what came", orders{addAt(1, "..\n"), fixAt(2)}, []string{"a\n", ".\n", "b\n", "c\n", "d\n"}},
		{"two dots go of what came", orders{addAt(4, "...\n"), fixAt(5), fixAt(5)}, []string{"a\n", "b\n", "c\n", "d\n", ".\n"}},
		{"a dot goes of what came first", orders{putAt(1, ".x\n"), fixAt(1)}, linesBy("xabcd")},
		{"a dot goes of what is within others", orders{changeFrom(2, 3, "x\n", ".y\n", "z\n"), fixAt(3)}, linesBy("axyzd")},
		{"it goes when it is at another place", orders{addAt(0, ".x\n"), addAt(0, "y\n"), fixAt(2)}, linesBy("yxabcd")},
		{"too many on the way", orders{addAt(2, manyLines(40)...), addAt(0, manyLines(40)...), dropFrom(1, 40), dropFrom(3, 42)}, linesBy("abcd")},
	}
}

func TestRunOrders(t *testing.T) {
	for _, c := range append(placeCases(), turnCases()...) {
		checkRun(t, c.name, fourLines(), c.o, c.want, 0)
		// The end of the last line is there first of all, whatever is done then.
		checkRun(t, c.name+", the last without an end", linesBy("abc.d"), c.o, c.want, 0)
	}
	for _, c := range []runCase{
		{"no orders", nil, nil},
		{"one comes", orders{addAt(0, "x\n")}, linesBy("x")},
		{"most come", orders{addAt(0, manyLines(impl.MaxLines)...)}, manyLines(impl.MaxLines)},
		{"one comes and goes", orders{addAt(0, "x\n"), dropFrom(1, 1)}, nil},
		{"one comes, and one ahead of it", orders{addAt(0, "x\n"), putAt(1, "y\n")}, linesBy("yx")},
	} {
		checkRun(t, c.name+", to no lines", nil, c.o, c.want, 0)
	}
	dots := []string{".a\n", "..\n", ". \n", "...", "b\n"}
	for at, want := range map[int]string{1: "a\n", 2: ".\n", 3: " \n", 4: "..\n"} {
		l := slices.Clone(dots[:at])
		checkRun(t, "a dot goes", l, orders{fixAt(at)}, append(slices.Clone(l[:at-1]), want), 0)
	}
	checkRun(t, "each dot goes", dots[:4], orders{fixAt(4), fixAt(2), fixAt(1), fixAt(3), fixAt(4)}, []string{"a\n", ".\n", " \n", ".\n"}, 0)
	checkRun(t, "bytes of no runes", []string{".\xff\n", ".\x00"}, orders{fixAt(1), fixAt(2)}, []string{"\xff\n", "\x00\n"}, 0)
}

func TestRunOrdersOnLinesWithoutAnEnd(t *testing.T) {
	wide := strings.Repeat("f", impl.MaxLine)
	dotted := "." + wide[1:]
	checkRun(t, "one", linesBy(".a"), nil, linesBy("a"), 0)
	checkRun(t, "one that is nearly most", []string{wide[1:]}, nil, []string{wide[1:] + "\n"}, 0)
	checkRun(t, "the last of most", append(manyLines(39), "l"), nil, manyLines(40), 0)
	// With its end it is too long: it must go, or be less, until the end.
	checkRun(t, "too long", []string{wide}, nil, nil, impl.PtOther)
	checkRun(t, "too long, behind others", []string{"a\n", wide}, orders{dropFrom(1, 1)}, nil, impl.PtOther)
	checkRun(t, "too long, not the last any more", []string{"a\n", wide}, orders{addAt(2, "x\n")}, nil, impl.PtOther)
	checkRun(t, "too long, but it goes", []string{"a\n", wide}, orders{dropFrom(2, 2)}, linesBy("a"), 0)
	checkRun(t, "too long, but it goes in the end", []string{"a\n", wide}, orders{addAt(2, "x\n"), dropFrom(2, 2)}, linesBy("ax"), 0)
	checkRun(t, "too long, but others come", []string{wide}, orders{changeFrom(1, 1, "x\n")}, linesBy("x"), 0)
	checkRun(t, "too long, but a dot goes", []string{dotted}, orders{fixAt(1)}, []string{wide[1:] + "\n"}, 0)
	checkRun(t, "too long, but a dot goes in the end", []string{dotted}, orders{addAt(0, "x\n"), fixAt(2)}, []string{"x\n", wide[1:] + "\n"}, 0)
	checkRun(t, "too long, with a dot", []string{dotted}, nil, nil, impl.PtOther)
	checkRun(t, "a dot alone, no end", []string{"."}, nil, []string{".\n"}, 0)
	checkRun(t, "a dot alone, no end, goes", []string{"."}, orders{fixAt(1)}, nil, impl.PtOther)
	checkRun(t, "two dots, no end", []string{".."}, orders{fixAt(1)}, []string{".\n"}, 0)
}

// codeCase is the code that orders have for lines.
type codeCase struct {
	name string
	o    orders
	code int
}

func farCases() []codeCase {
	return []codeCase{
		{"behind line 5", orders{addAt(5, "x\n")}, impl.PtFar},
		{"behind line 1000", orders{addAt(1000, "x\n")}, impl.PtFar},
		{"ahead of line 5", orders{putAt(5, "x\n")}, impl.PtFar},
		{"ahead of line 1000", orders{putAt(1000, "x\n")}, impl.PtFar},
		{"for line 5", orders{changeFrom(5, 5, "x\n")}, impl.PtFar},
		{"for lines up to 5", orders{changeFrom(4, 5, "x\n")}, impl.PtFar},
		{"for all lines up to 1000", orders{changeFrom(1, 1000, "x\n")}, impl.PtFar},
		{"line 5 goes", orders{dropFrom(5, 5)}, impl.PtFar},
		{"lines up to 5 go", orders{dropFrom(1, 5)}, impl.PtFar},
		{"line 1000 goes", orders{dropFrom(1000, 1000)}, impl.PtFar},
		{"a dot of line 5", orders{fixAt(5)}, impl.PtFar},
		{"a dot of line 1000", orders{fixAt(1000)}, impl.PtFar},
		{"far behind what can be done", orders{addAt(0, "x\n"), dropFrom(6, 6)}, impl.PtFar},
		{"far ahead of what can be done", orders{dropFrom(5, 5), addAt(0, "x\n")}, impl.PtFar},
		{"it went", orders{dropFrom(4, 4), dropFrom(4, 4)}, impl.PtFar},
		{"all went", orders{dropFrom(1, 4), putAt(1, "x\n")}, impl.PtFar},
		{"it comes only then", orders{dropFrom(5, 5), addAt(4, "x\n")}, impl.PtFar},
		{"far, and too many in the end", orders{addAt(0, manyLines(40)...), dropFrom(45, 45)}, impl.PtFar},
		{"far, and what would make it good behind", orders{dropFrom(1, 5), addAt(4, "x\n"), dropFrom(1, 5)}, impl.PtFar},
	}
}

// otherCases are for the lines `a`, `..`, a dot alone and `.d`.
func otherCases() []codeCase {
	return []codeCase{
		{"a line without a dot", orders{fixAt(1)}, impl.PtOther},
		{"a dot alone", orders{fixAt(3)}, impl.PtOther},
		{"two dots", orders{fixAt(2)}, 0},
		{"two dots, twice", orders{fixAt(2), fixAt(2)}, impl.PtOther},
		{"a dot and more", orders{fixAt(4)}, 0},
		{"a dot and more, twice", orders{fixAt(4), fixAt(4)}, impl.PtOther},
		{"what came has none", orders{addAt(1, "x\n"), fixAt(2)}, impl.PtOther},
		{"an end alone", orders{addAt(1, "\n"), fixAt(2)}, impl.PtOther},
		{"a dot that is not first", orders{addAt(1, " .\n"), fixAt(2)}, impl.PtOther},
		{"too many in the end", orders{addAt(4, manyLines(37)...)}, impl.PtOther},
		{"as many as can be", orders{addAt(4, manyLines(36)...)}, 0},
		{"too many of two", orders{addAt(0, manyLines(36)...), addAt(0, "x\n")}, impl.PtOther},
		{"as many as can be of three", orders{addAt(0, manyLines(36)...), addAt(0, "x\n"), dropFrom(9, 9)}, 0},
		{"much too many", slices.Repeat(orders{addAt(0, manyLines(40)...)}, mostOrders), impl.PtOther},
		{"no dot, ahead of what can be done", orders{fixAt(1), addAt(0, "x\n")}, impl.PtOther},
		{"no dot, behind what can be done", orders{addAt(0, "x\n"), fixAt(1)}, impl.PtOther},
		{"no dot, and it goes then", orders{fixAt(1), dropFrom(1, 1)}, impl.PtOther},
		{"no dot, and far then", orders{fixAt(1), dropFrom(5, 5)}, impl.PtOther},
		{"far, and no dot then", orders{dropFrom(5, 5), fixAt(1)}, impl.PtFar},
		{"no dot, and far ahead of it", orders{dropFrom(1, 1), fixAt(4), fixAt(2)}, impl.PtFar},
		{"no dot, and too many in the end", orders{addAt(4, manyLines(40)...), fixAt(1)}, impl.PtOther},
	}
}

func TestRunOrdersTellsCodes(t *testing.T) {
	check := func(l []string, c codeCase) {
		t.Helper()
		if !impl.GoodOrders(c.o) {
			t.Errorf("%s: not good: %v", c.name, c.o)
		}
		if code := checkRunAsModel(t, c.name, l, c.o); code != c.code {
			t.Errorf("%s: the code of %v is %d, not %d", c.name, c.o, code, c.code)
		}
	}
	for _, c := range farCases() {
		check(fourLines(), c)
		check(linesBy("abc.d"), c)
		checkRunAsModel(t, c.name+", no lines", nil, c.o)
	}
	for _, c := range otherCases() {
		check([]string{"a\n", "..\n", ".\n", ".d\n"}, c)
		check([]string{"a\n", "..\n", ".\n", ".d"}, c)
	}
	for _, k := range []impl.Order{addAt(1, "x\n"), putAt(1, "x\n"), changeFrom(1, 1, "x\n"), dropFrom(1, 1), fixAt(1)} {
		check(nil, codeCase{"of no lines", orders{k}, impl.PtFar})
	}
	check(manyLines(40), codeCase{"most and one", orders{addAt(40, "x\n")}, impl.PtOther})
	check(manyLines(39), codeCase{"most", orders{addAt(39, "x\n")}, 0})
	check(manyLines(40), codeCase{"behind most", orders{addAt(41, "x\n")}, impl.PtFar})
}

// smallOrders lists all good orders up to a number that bring one of these.
func smallOrders(most int, news [][]string) orders {
	var all orders
	for from := range most + 1 {
		for to := from; to <= most; to++ {
			for _, l := range append(news, nil) {
				for _, k := range eachOrder(from, to, l) {
					if isGoodOrder(k) {
						all = append(all, k)
					}
				}
			}
		}
	}
	return all
}

func TestRunOfAllSmallOrders(t *testing.T) {
	all := smallOrders(4, [][]string{{"x\n"}, {".\n"}, {"..\n", "y\n"}})
	seen := map[int]int{}
	for _, l := range append(smallTexts(), []string{".x\n", ".\n"}, []string{"..\n", "..\n", "."}) {
		for _, k := range all {
			checkRunAsModel(t, "one", l, orders{k})
			for _, next := range all {
				seen[checkRunAsModel(t, "two", l, orders{k, next})]++
			}
		}
	}
	few := smallOrders(2, [][]string{{"x\n"}, {".\n"}, {"..\n"}})
	for _, l := range [][]string{nil, {"x\n"}, {".."}, {"..\n", ".x\n"}} {
		for _, k := range few {
			for _, next := range few {
				for _, last := range few {
					seen[checkRunAsModel(t, "three", l, orders{k, next, last})]++
				}
			}
		}
	}
	if len(seen) != 3 || min(seen[0], seen[impl.PtFar], seen[impl.PtOther]) < 500 {
		t.Errorf("codes: %v", seen)
	}
}

// edCase is what hunks for lines are as orders.
type edCase struct {
	name string
	l    []string
	h    hunks
	text string
	want orders
}

func edCases() []edCase {
	abc, x, xy := linesBy("abc"), linesBy("x"), linesBy("xy")
	return []edCase{
		{"no hunks", abc, nil, "", nil},
		{"nothing at all", nil, nil, "", nil},
		{"the first line goes", abc, hunks{{Gone: 1}}, "1d\n", orders{dropFrom(1, 1)}},
		{"two go", abc, hunks{{At: 1, Gone: 2}}, "2,3d\n", orders{dropFrom(2, 3)}},
		{"all lines go", abc, hunks{{Gone: 3}}, "1,3d\n", orders{dropFrom(1, 3)}},
		{"one comes to none", nil, hunks{{New: x}}, "0a\nx\n.\n", orders{addAt(0, x...)}},
		{"one comes ahead of the first", abc, hunks{{New: x}}, "0a\nx\n.\n", orders{addAt(0, x...)}},
		{"two come within", abc, hunks{{At: 1, New: xy}}, "1a\nx\ny\n.\n", orders{addAt(1, xy...)}},
		{"one comes behind the last", abc, hunks{{At: 3, New: x}}, "3a\nx\n.\n", orders{addAt(3, x...)}},
		{"the first line is changed", abc, hunks{{Gone: 1, New: x}}, "1c\nx\n.\n", orders{changeFrom(1, 1, x...)}},
		{"one for two", abc, hunks{{At: 1, Gone: 2, New: x}}, "2,3c\nx\n.\n", orders{changeFrom(2, 3, x...)}},
		{"two for the last", abc, hunks{{At: 2, Gone: 1, New: xy}}, "3c\nx\ny\n.\n", orders{changeFrom(3, 3, xy...)}},
		{"all lines are the same", abc, hunks{{Gone: 3, New: abc}}, "1,3c\na\nb\nc\n.\n", orders{changeFrom(1, 3, abc...)}},
		{"three hunks", linesBy("abcde"), hunks{{At: 1, Gone: 1}, {At: 3, Gone: 1, New: x}, {At: 5, New: linesBy("y")}}, "5a\ny\n.\n4c\nx\n.\n2d\n",
			orders{addAt(5, "y\n"), changeFrom(4, 4, x...), dropFrom(2, 2)}},
		{"more comes ahead of what goes", linesBy("abcde"), hunks{{New: xy}, {At: 2, Gone: 2}, {At: 5, New: x}}, "5a\nx\n.\n3,4d\n0a\nx\ny\n.\n",
			orders{addAt(5, x...), dropFrom(3, 4), addAt(0, xy...)}},
	}
}

func dotCases() []edCase {
	abc, dots := linesBy("abc"), []string{dotAlone, dotAlone}
	return []edCase{
		{"a dot alone comes", abc, hunks{{At: 1, New: dots[:1]}}, "1a\n..\n.\n2s/.//\n", orders{addAt(1, "..\n"), fixAt(2)}},
		{"it comes to none", nil, hunks{{New: dots[:1]}}, "0a\n..\n.\n1s/.//\n", orders{addAt(0, "..\n"), fixAt(1)}},
		{"it comes behind all", abc, hunks{{At: 3, New: dots[:1]}}, "3a\n..\n.\n4s/.//\n", orders{addAt(3, "..\n"), fixAt(4)}},
		{"it comes for one", abc, hunks{{At: 1, Gone: 1, New: dots[:1]}}, "2c\n..\n.\n2s/.//\n", orders{changeFrom(2, 2, "..\n"), fixAt(2)}},
		{"two come", abc, hunks{{At: 1, New: dots}}, "1a\n..\n..\n.\n2s/.//\n3s/.//\n", orders{addAt(1, "..\n", "..\n"), fixAt(2), fixAt(3)}},
		{"two come for all", abc, hunks{{Gone: 3, New: dots}}, "1,3c\n..\n..\n.\n1s/.//\n2s/.//\n", orders{changeFrom(1, 3, "..\n", "..\n"), fixAt(1), fixAt(2)}},
		{"first and last", abc, hunks{{At: 1, Gone: 2, New: []string{".\n", "x\n", ".\n"}}}, "2,3c\n..\nx\n..\n.\n2s/.//\n4s/.//\n", orders{changeFrom(2, 3, "..\n", "x\n", "..\n"), fixAt(2), fixAt(4)}},
		{"within", abc, hunks{{At: 2, Gone: 1, New: []string{"x\n", ".\n", "y\n"}}}, "3c\nx\n..\ny\n.\n4s/.//\n", orders{changeFrom(3, 3, "x\n", "..\n", "y\n"), fixAt(4)}},
		{"in two hunks", abc, hunks{{Gone: 1, New: dots[:1]}, {At: 2, New: []string{"x\n", ".\n"}}}, "2a\nx\n..\n.\n4s/.//\n1c\n..\n.\n1s/.//\n",
			orders{addAt(2, "x\n", "..\n"), fixAt(4), changeFrom(1, 1, "..\n"), fixAt(1)}},
		{"behind a hunk that brings more", abc, hunks{{New: linesBy("xyz")}, {At: 2, Gone: 1, New: dots[:1]}}, "3c\n..\n.\n3s/.//\n0a\nx\ny\nz\n.\n",
			orders{changeFrom(3, 3, "..\n"), fixAt(3), addAt(0, linesBy("xyz")...)}},
		{"one goes", []string{"a\n", ".\n"}, hunks{{At: 1, Gone: 1}}, "2d\n", orders{dropFrom(2, 2)}},
		{"one stays", []string{"a\n", ".\n", "b\n"}, hunks{{Gone: 1}, {At: 2, Gone: 1, New: linesBy("x")}}, "3c\nx\n.\n1d\n", orders{changeFrom(3, 3, "x\n"), dropFrom(1, 1)}},
		{"two dots are no dot alone", abc, hunks{{At: 1, New: []string{"..\n", ".x\n", "x.\n", ". \n"}}}, "1a\n..\n.x\nx.\n. \n.\n", orders{addAt(1, "..\n", ".x\n", "x.\n", ". \n")}},
		{"one dot and two", abc, hunks{{At: 1, New: []string{"..\n", ".\n"}}}, "1a\n..\n..\n.\n3s/.//\n", orders{addAt(1, "..\n", "..\n"), fixAt(3)}},
	}
}

func TestEdOrders(t *testing.T) {
	for _, c := range append(edCases(), dotCases()...) {
		checkEd(t, c.name, c.l, c.h, c.want, c.text)
		if got := edBy(c.h); !alikeOrders(got, c.want) {
			t.Errorf("%s: the model tells %v", c.name, got)
		}
	}
}

func TestEdOrdersOfAllSmallHunks(t *testing.T) {
	news := append(smallNews(), []string{".\n"}, []string{".\n", "x\n", ".\n"}, []string{"..\n", "."}, []string{"."})
	for _, l := range append(smallTexts(), []string{".\n"}, []string{".\n", ".\n"}, []string{"..\n", "."}) {
		for _, h := range hunksFor(len(l), news) {
			checkEdAsModel(t, "small", l, h)
		}
	}
}

func TestLinesWithoutAnEndGetNoOrders(t *testing.T) {
	open, whole := linesBy("a.b"), linesBy("ab")
	cases := []struct {
		name string
		l    []string
		h    hunks
	}{
		{"ahead, nothing is done", open, nil},
		{"ahead, and it stays", open, hunks{{Gone: 1}}},
		{"ahead, one alone", linesBy(".a"), nil},
		{"ahead, and it goes", open, hunks{{At: 1, Gone: 1}}},
		{"ahead, and all go", open, hunks{{Gone: 2}}},
		{"ahead, and its end comes", open, hunks{{At: 1, Gone: 1, New: whole[1:]}}},
		{"ahead, and a dot", []string{"."}, hunks{{Gone: 1, New: []string{".\n"}}}},
		{"afterwards, its end goes", whole, hunks{{At: 1, Gone: 1, New: open[1:]}}},
		{"afterwards, it comes", whole, hunks{{At: 2, New: linesBy(".c")}}},
		{"afterwards, it comes to none", nil, hunks{{New: linesBy("x.y")}}},
		{"afterwards, a dot comes", whole, hunks{{At: 2, New: []string{"."}}}},
		{"afterwards, of two hunks", whole, hunks{{Gone: 1}, {At: 2, New: linesBy(".c")}}},
		{"both", open, hunks{{At: 1, Gone: 1, New: linesBy(".c")}}},
		{"both, the same", open, hunks{{Gone: 2, New: open}}},
	}
	for _, c := range cases {
		if _, ok := impl.Patch(c.l, c.h); !ok {
			t.Errorf("%s: can not be done", c.name)
		}
		checkNoEd(t, c.name, c.l, c.h)
	}
}

func TestEdOrdersOfMost(t *testing.T) {
	wide := slices.Repeat([]string{full(impl.MaxLine)}, impl.MaxLines)
	dots := slices.Repeat([]string{dotAlone}, impl.MaxLines)
	lines := numbered("a", impl.MaxLines)
	cases := []struct {
		name string
		l    []string
		h    hunks
	}{
		{"all lines are others", lines, hunks{{Gone: impl.MaxLines, New: wide}}},
		{"all lines are dots", lines, hunks{{Gone: impl.MaxLines, New: dots}}},
		{"all dots are dots", dots, hunks{{Gone: impl.MaxLines, New: dots}}},
		{"most dots come to none", nil, hunks{{New: dots}}},
		{"most hunks", lines, everySecond(impl.MaxHunks, 1, wide[:1])},
		{"most hunks, each with a dot", lines, everySecond(impl.MaxHunks, 1, dots[:1])},
		{"most hunks, all that goes", lines, everySecond(impl.MaxHunks, 1, nil)},
		{"most hunks, all that comes", lines[:20], everySecond(impl.MaxHunks, 0, dots[:1])[:11]},
		{"most hunks and most dots", lines[:19], slices.Concat(everyPlace(19, dots[:1]), hunks{{At: 19, New: dots[:2]}})},
		// On the way there are more lines than there may be.
		{"much goes, and then as much comes", lines, hunks{{Gone: 20}, {At: 40, New: dots[:20]}}},
	}
	for _, c := range cases {
		checkEd(t, c.name, c.l, c.h, edBy(c.h), textOfOrders(edBy(c.h)))
	}
	if n := len(edBy(cases[8].h)); n != 41 {
		t.Errorf("%d orders, not as many as there can be", n)
	}
}

// everyPlace are n hunks, each of which brings lines ahead of one more line.
func everyPlace(n int, l []string) hunks {
	var h hunks
	for at := range n {
		h = append(h, impl.Hunk{At: at, New: l})
	}
	return h
}

// dotted are mixed lines some of which are a dot alone, or begin with one.
func dotted(n, seed int) []string {
	l := mixed(n, 5, seed)
	for i, line := range l {
		l[i] = map[string]string{"0\n": ".\n", "1\n": "..\n", "2\n": ".x\n"}[line]
		if l[i] == "" {
			l[i] = line
		}
	}
	return l
}

func TestEdOrdersOfDiffs(t *testing.T) {
	done := 0
	for seed := range 200 {
		a, b := dotted(seed%41, seed), dotted(40-seed*7%41, seed+1000)
		h, ok := impl.DiffHunks(a, b)
		if !ok {
			continue
		}
		done++
		checkEdAsModel(t, "a diff", a, h)
		checkRun(t, "a diff", a, edBy(h), b, 0)
		got, code, ok := impl.OrdersHunks(a, edBy(h))
		if !alike(got, h) || code != 0 || !ok {
			t.Errorf("OrdersHunks(%q, %v) = %#v, %d, %v, not %#v", a, edBy(h), got, code, ok, h)
		}
	}
	if done < 150 {
		t.Errorf("only %d diffs", done)
	}
}

// checkOrdersHunks expects hunks of good lines and good orders.
func checkOrdersHunks(t *testing.T, name string, l []string, o orders, want hunks, code int) {
	t.Helper()
	if h, got, ok := impl.OrdersHunks(l, o); !alike(h, want) || got != code || !ok {
		t.Errorf("%s: OrdersHunks(%q, %v) = %#v, %d, %v, not %#v, %d", name, l, o, h, got, ok, want, code)
	}
	checkRunAsModel(t, name, l, o)
}

func TestOrdersHunks(t *testing.T) {
	l, x := fourLines(), linesBy("x")
	cases := []struct {
		name string
		o    orders
		want hunks
		code int
	}{
		{"no orders", nil, nil, 0},
		{"one comes", orders{addAt(4, x...)}, hunks{{At: 4, New: x}}, 0},
		{"one comes ahead", orders{putAt(1, x...)}, hunks{{New: x}}, 0},
		{"one for two", orders{changeFrom(2, 3, x...)}, hunks{{At: 1, Gone: 2, New: x}}, 0},
		{"all go", orders{dropFrom(1, 4)}, hunks{{Gone: 4}}, 0},
		{"three", orders{addAt(4, x...), dropFrom(3, 3), changeFrom(1, 1, x...)}, hunks{{Gone: 1, New: x}, {At: 2, Gone: 1}, {At: 4, New: x}}, 0},
		{"side by side", orders{dropFrom(2, 2), dropFrom(2, 2), addAt(1, x...)}, hunks{{At: 1, Gone: 2, New: x}}, 0},
		{"the same comes", orders{changeFrom(2, 3, l[1:3]...)}, nil, 0},
		{"less than the order tells", orders{changeFrom(1, 4, linesBy("axcd")...)}, hunks{{At: 1, Gone: 1, New: x}}, 0},
		{"one comes and goes", orders{addAt(2, x...), dropFrom(3, 3)}, nil, 0},
		{"one goes and comes", orders{dropFrom(2, 2), addAt(1, l[1])}, nil, 0},
		{"a dot alone", orders{addAt(0, "..\n"), fixAt(1)}, hunks{{New: []string{dotAlone}}}, 0},
		{"far", orders{addAt(5, x...)}, nil, impl.PtFar},
		{"far, behind what is done", orders{addAt(4, x...), dropFrom(6, 6)}, nil, impl.PtFar},
		{"no dot", orders{dropFrom(1, 1), fixAt(1)}, nil, impl.PtOther},
		{"too many in the end", orders{addAt(4, manyLines(37)...)}, nil, impl.PtOther},
	}
	for _, c := range cases {
		checkOrdersHunks(t, c.name, l, c.o, c.want, c.code)
	}
	checkOrdersHunks(t, "no lines, no orders", nil, nil, nil, 0)
	checkOrdersHunks(t, "no lines", nil, orders{addAt(0, x...)}, hunks{{New: x}}, 0)
	// Lines that need an end first of all are none that hunks could be told for.
	for _, open := range [][]string{linesBy(".a"), linesBy("abc.d"), {"."}} {
		for _, o := range []orders{nil, {addAt(0, x...)}, {dropFrom(1, 1)}, {dropFrom(9, 9)}, {fixAt(1)}} {
			checkRunAsModel(t, "without an end", open, o)
		}
	}
}

// More hunks than there may be are none, but the code is 0 all the same.
func TestOrdersOfMoreHunksThanMost(t *testing.T) {
	for n := impl.MaxHunks - 1; n <= impl.MaxHunks; n++ {
		l := numbered("a", n)
		var o orders
		for at := n; at > 0; at-- {
			o = append(o, putAt(at, "x\n"))
		}
		want := everyPlace(n, linesBy("x"))
		checkOrdersHunks(t, "most", l, o, want, 0)
	}
	a, b, h := gapped(26, 14, 27)
	checkOrdersHunks(t, "as many as there can be", a, edBy(h), nil, 0)
	checkRun(t, "as many as there can be", a, edBy(h), b, 0)
	for all := 15; all <= 27; all++ {
		a, b, h := gapped(26, 14, all)
		want := h
		if len(h) > impl.MaxHunks {
			want = nil
		}
		checkOrdersHunks(t, fmt.Sprint(all), a, edBy(h), want, 0)
		checkRun(t, fmt.Sprint(all), a, edBy(h), b, 0)
	}
}
