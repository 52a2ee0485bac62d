package tests

import (
	"math"
	"slices"
	"strings"
	"testing"

	"loop.example/g00825/impl"
)

// checkNotRun expects no lines, no hunks and no code of lines and orders.
func checkNotRun(t *testing.T, name string, l []string, o orders) {
	t.Helper()
	if made, code, ok := impl.RunOrders(l, o); len(made) != 0 || code != 0 || ok {
		t.Errorf("%s: RunOrders(%q, %v) = %q, %d, %v", name, l, o, made, code, ok)
	}
	if h, code, ok := impl.OrdersHunks(l, o); len(h) != 0 || code != 0 || ok {
		t.Errorf("%s: OrdersHunks(%q, %v) = %#v, %d, %v", name, l, o, h, code, ok)
	}
}

// checkBadOrders expects the zero answer of each function that takes good orders.
func checkBadOrders(t *testing.T, name string, o orders) {
	t.Helper()
	if impl.GoodOrders(o) || areGoodOrders(o) {
		t.Errorf("%s: not good, but told: %v", name, o)
	}
	if s, ok := impl.OrdersText(o); s != "" || ok {
		t.Errorf("%s: OrdersText(%v) = %q, %v", name, o, s, ok)
	}
	for _, l := range [][]string{nil, {"x\n"}, fourLines(), linesBy("abc.d")} {
		checkNotRun(t, name, l, o)
	}
	toEditor.checkAny(t, textOfOrders(o))
}

// badOrders are orders that are not good, by what is wrong with them.
func badOrders() map[string]impl.Order {
	x := []string{"x\n"}
	return map[string]impl.Order{
		"nothing":                      {},
		"no kind":                      {From: 1, To: 1},
		"a kind below the first":       {Kind: impl.OdAdd - 1, From: 1, To: 1, New: x},
		"a kind above the last":        {Kind: impl.OdFix + 1, From: 1, To: 1},
		"the least kind":               {Kind: math.MinInt, From: 1, To: 1},
		"the greatest kind":            {Kind: math.MaxInt, From: 1, To: 1, New: x},
		"behind line -1":               addAt(-1, x...),
		"behind line 1001":             addAt(1001, x...),
		"behind no lines":              addAt(1),
		"behind two lines":             {Kind: impl.OdAdd, From: 1, To: 2, New: x},
		"behind what falls":            {Kind: impl.OdAdd, From: 1, To: 0, New: x},
		"ahead of line 0":              putAt(0, x...),
		"ahead of line 1001":           putAt(1001, x...),
		"ahead, with no lines":         putAt(1),
		"ahead of two lines":           {Kind: impl.OdPut, From: 1, To: 2, New: x},
		"for line 0":                   changeFrom(0, 0, x...),
		"for lines from 0 on":          changeFrom(0, 1, x...),
		"for lines that fall":          changeFrom(2, 1, x...),
		"for lines up to 1001":         changeFrom(1, 1001, x...),
		"for lines, with none":         changeFrom(1, 2),
		"for lines, a list of none":    changeFrom(1, 2, []string{}...),
		"line 0 goes":                  dropFrom(0, 0),
		"lines from 0 on go":           dropFrom(0, 1),
		"lines that fall go":           dropFrom(2, 1),
		"lines up to 1001 go":          dropFrom(1000, 1001),
		"lines go, with lines":         {Kind: impl.OdDrop, From: 1, To: 1, New: x},
		"a dot of line 0":              fixAt(0),
		"a dot of line 1001":           fixAt(1001),
		"a dot of two lines":           {Kind: impl.OdFix, From: 1, To: 2},
		"a dot of lines that fall":     {Kind: impl.OdFix, From: 2, To: 1},
		"a dot, with lines":            {Kind: impl.OdFix, From: 1, To: 1, New: x},
		"a dot, with a dot":            {Kind: impl.OdFix, From: 1, To: 1, New: []string{"..\n"}},
		"the least number":             dropFrom(math.MinInt, math.MinInt),
		"from the least number":        dropFrom(math.MinInt, 1),
		"the greatest number":          dropFrom(math.MaxInt, math.MaxInt),
		"up to the greatest number":    dropFrom(1, math.MaxInt),
		"all numbers":                  changeFrom(math.MinInt, math.MaxInt, x...),
		"all numbers, turned":          changeFrom(math.MaxInt, math.MinInt, x...),
		"less, more than an int holds": {Kind: impl.OdFix, From: math.MaxInt, To: math.MinInt},
		"behind the greatest number":   addAt(math.MaxInt, x...),
		"behind the least number":      addAt(math.MinInt, x...),
		"ahead of the least number":    putAt(math.MinInt, x...),
		"a dot of the least number":    fixAt(math.MinInt),
		"one more wraps to 0":          fixAt(-1),
		"an empty line":                addAt(1, ""),
		"a line without an end":        putAt(1, "x"),
		"a line with two ends":         changeFrom(1, 1, "x\n\n"),
		"a dot alone":                  addAt(1, "x\n", ".\n"),
		"too long a line":              addAt(1, full(impl.MaxLine+1)),
		"too many lines":               addAt(1, manyLines(impl.MaxLines+1)...),
	}
}

func TestBadOrdersGetTheZeroAnswer(t *testing.T) {
	good := orders{addAt(0, "x\n"), dropFrom(1, 1)}
	for name, k := range badOrders() {
		checkBadOrders(t, name, orders{k})
		checkBadOrders(t, name+", the last", append(slices.Clone(good), k))
		checkBadOrders(t, name+", the first", append(orders{k}, good...))
		checkBadOrders(t, name+", behind one that is far", orders{dropFrom(900, 900), k})
		checkBadOrders(t, name+", behind one without a dot", orders{fixAt(1), k})
		checkBadOrders(t, name+", of most", append(slices.Repeat(good, 29), good[0], k))
	}
}

func TestBadLinesGetNoOrders(t *testing.T) {
	x := linesBy("x")
	for name, l := range badLists() {
		for _, o := range []orders{nil, {addAt(0, x...)}, {dropFrom(1, 1)}, {dropFrom(1, 1000)}, {fixAt(1)}, {changeFrom(1, 1000, x...)}, {{}}} {
			checkNotRun(t, name, l, o)
		}
		for _, h := range []hunks{nil, {{New: x}}, {{Gone: 1}}, {{Gone: len(l)}}, {{Gone: len(l), New: x}}} {
			checkNoEd(t, name, l, h)
		}
	}
	for name, h := range badHunks() {
		checkNoEd(t, name, fourLines(), h)
	}
	checkNoEd(t, "one without an end comes first", fourLines(), hunks{{New: linesBy(".x")}})
	checkNoEd(t, "one comes behind one without an end", linesBy(".a"), hunks{{At: 1, New: x}})
	checkNoEd(t, "too many lines", manyLines(impl.MaxLines), hunks{{At: 1, New: x}})
}

func TestReadOrdersOfAnyBytes(t *testing.T) {
	for first := range 256 {
		one := string([]byte{byte(first)})
		toEditor.checkNone(t, "one byte", one)
		toEditor.checkNone(t, "one byte and an end", one+"\n")
		toEditor.checkAny(t, "1"+one+"\n")
		toEditor.checkAny(t, "1"+one+"\nx\n.\n")
		toEditor.checkAny(t, one+"d\n")
		toEditor.checkAny(t, "1"+one+"2d\n")
		toEditor.checkAny(t, "1d"+one+"\n")
		toEditor.checkAny(t, "1d"+one)
		toEditor.checkAny(t, "1a\n"+one+"\n.\n")
		toEditor.checkAny(t, "1a\n"+one+".\n.\n")
		toEditor.checkAny(t, "1a\n."+one+"\n.\n")
		toEditor.checkAny(t, "1a\nx\n"+one+"\n")
		toEditor.checkAny(t, "1a\nx\n."+one)
		toEditor.checkAny(t, "1s/"+one+"//\n")
		toEditor.checkAny(t, "1s/./"+one+"/\n")
		toEditor.checkAny(t, "1s"+one+"."+one+one+"\n")
		for second := range 256 {
			toEditor.checkNone(t, "two bytes", one+string([]byte{byte(second)}))
			toEditor.checkAny(t, one+string([]byte{byte(second)})+"\n")
		}
	}
}

func TestReadOrdersOfMuch(t *testing.T) {
	parts := []string{"\n", "1", ",", "d", "1d\n", "1a\n", "1a\nx\n.\n", "1s/.//\n", ".\n", "x\n", "..\n", "1,2c\n", "s/.//", "\x00", "\xff", "1,1000d\n"}
	for _, part := range parts {
		for _, ahead := range []string{"", "1a\n", "1a\nx\n", "1d\n", "1,2c\nx\n.\n", "1"} {
			toEditor.checkNone(t, "much of it", ahead+strings.Repeat(part, 100000/len(part)))
			toEditor.checkNone(t, "most of it", ahead+strings.Repeat(part, (impl.MaxPatch-len(ahead))/len(part)))
		}
	}
	toEditor.checkNone(t, "much behind", "1d\n"+strings.Repeat(" ", 100000))
	toEditor.checkNone(t, "many digits", strings.Repeat("1", 2000)+"d\n")
	toEditor.checkNone(t, "many digits behind a comma", "1,"+strings.Repeat("1", 2000)+"d\n")
}

// A number that an int can not hold, or only just can, is none.
func TestReadOrdersOfNumbersThatAnIntCanNotHold(t *testing.T) {
	numbers := []string{"9223372036854775807", "9223372036854775808", "18446744073709551615", "18446744073709551616", "18446744073709551617", "-9223372036854775808",
		"-9223372036854775809", "-1", "4294967296", "4294967297", "340282366920938463463374607431768211457"}
	for _, n := range numbers {
		for _, both := range []string{n, n + ",1", "1," + n, "0," + n, n + "," + n, n + ",0"} {
			for _, word := range []string{"a\nx\n.\n", "i\nx\n.\n", "c\nx\n.\n", "d\n", "s/.//\n"} {
				toEditor.checkNone(t, "such a number", both+word)
			}
		}
	}
}

// ordersWithin puts orders, and the lines of each, into larger arrays; the second answer is all of the orders' array.
func ordersWithin(o orders) (orders, orders) {
	stranger := impl.Order{Kind: -3, From: -3, To: -3, New: []string{"stranger\n"}}
	room := slices.Concat(orders{stranger}, o, orders{stranger, stranger})
	for i := range room {
		room[i].New, _ = within(room[i].New)
	}
	return room[1 : 1+len(o)], room
}

// copyOfOrders is a copy with all of each New up to its capacity.
func copyOfOrders(o orders) orders {
	all := slices.Clone(o)
	for i, k := range o {
		all[i].New = slices.Clone(k.New[:cap(k.New)])
	}
	return all
}

// newsIn are the lists of orders, in the same memory, as those of hunks.
func newsIn(o orders) hunks {
	h := make(hunks, 0, len(o))
	for _, k := range o {
		h = append(h, impl.Hunk{New: k.New})
	}
	return h
}

// spoilOrders writes into all memory that an answer hands out.
func spoilOrders(o orders) {
	spoil(newsIn(o))
	for i := range o[:cap(o)] {
		o[:cap(o)][i] = impl.Order{Kind: -9, From: -9}
	}
}

// checkOrdersApart expects that no two lists of an answer share memory, and that nothing lies behind them.
func checkOrdersApart(t *testing.T, name string, o orders) {
	t.Helper()
	for _, k := range o[len(o):cap(o)] {
		if !alikeOrders(orders{k}, make(orders, 1)) {
			t.Errorf("%s hands out %v", name, k)
		}
	}
	checkApart(t, name, newsIn(o))
}

// callOrders calls each function of the layer and writes into what it answers.
func callOrders(l []string, h hunks, o orders) {
	impl.GoodOrders(o)
	text, _ := impl.OrdersText(o)
	read, _, _ := impl.ReadOrders(text)
	spoilOrders(read)
	made, _ := impl.EdOrders(l, h)
	spoilOrders(made)
	impl.EdText(l, h)
	lines, _, _ := impl.RunOrders(l, o)
	spoilLines(lines)
	told, _, _ := impl.OrdersHunks(l, o)
	spoil(told)
}

// runsOfAll are orders of each kind and code, some of which are not good.
func runsOfAll() []orders {
	all := []orders{nil, {addAt(9, "x\n")}, {dropFrom(1, 1), fixAt(1)}, {addAt(0, "..\n"), fixAt(1)}, {addAt(0, manyLines(40)...)}}
	for _, c := range slices.Concat(placeCases(), turnCases()) {
		all = append(all, c.o)
	}
	for _, k := range badOrders() {
		all = append(all, orders{k}, orders{dropFrom(1, 1), k})
	}
	return all
}

func TestNoOrdersAreChanged(t *testing.T) {
	lists := append(sharingCases(), nil, hunks{{New: []string{".\n", "x\n", ".\n"}}}, hunks{{At: 9, New: linesBy("x")}}, hunks{{At: 4, New: linesBy(".x")}})
	for _, text := range [][]string{nil, fourLines(), linesBy("abc.d"), {"..\n", ".b\n", ".\n"}, {".a"}, {"a", "b\n"}} {
		for _, g := range lists {
			for _, k := range runsOfAll() {
				l, roomL := within(text)
				h, roomH := hunksWithin(g)
				o, roomO := ordersWithin(k)
				beforeL, beforeH, beforeO := slices.Clone(roomL), deepCopy(roomH), copyOfOrders(roomO)
				callOrders(l, h, o)
				if !slices.Equal(roomL, beforeL) || !unchanged(roomH, beforeH) || !alikeOrders(copyOfOrders(roomO), beforeO) {
					t.Fatalf("changed: %q, %#v, %v", text, g, k)
				}
			}
		}
	}
}

func TestListsOfOrdersShareNoMemory(t *testing.T) {
	dots := hunks{{New: []string{".\n", "x\n"}}, {At: 2, Gone: 1, New: []string{".\n", ".\n"}}, {At: 4, New: []string{"y\n", ".\n"}}}
	for _, h := range append(sharingCases(), dots) {
		l, roomL := within(fourLines())
		inH, roomH := hunksWithin(h)
		beforeL, beforeH := slices.Clone(roomL), deepCopy(roomH)
		o, ok := impl.EdOrders(l, inH)
		text, _ := impl.EdText(l, inH)
		read, code, readOk := impl.ReadOrders(text)
		told, _, _ := impl.OrdersHunks(l, o)
		if !ok || !readOk || code != 0 || len(o) < len(h) || !alikeOrders(o, read) {
			t.Fatalf("%v, %v", o, read)
		}
		checkOrdersApart(t, "EdOrders", o)
		checkOrdersApart(t, "ReadOrders", read)
		checkApart(t, "OrdersHunks", told)
		if !slices.Equal(roomL, beforeL) || !unchanged(roomH, beforeH) {
			t.Errorf("lists are shared: %q, %v", roomL, roomH)
		}
	}
}

// What RunOrders answers is its own memory, and nothing that went on the way lies behind it.
func TestLinesOfOrdersShareNoMemory(t *testing.T) {
	for _, k := range runsOfAll() {
		for _, text := range [][]string{nil, fourLines(), linesBy("abc.d"), manyLines(40)} {
			l, roomL := within(text)
			o, roomO := ordersWithin(k)
			beforeL, beforeO := slices.Clone(roomL), copyOfOrders(roomO)
			made, code, _ := impl.RunOrders(l, o)
			if code != 0 && len(made) != 0 {
				t.Errorf("%q beside %d", made, code)
			}
			for _, line := range made[len(made):cap(made)] {
				if line != "" {
					t.Errorf("RunOrders(%q, %v) hands out %q", l, o, line)
				}
			}
			spoilLines(made)
			_ = append(made, "mine")
			if !slices.Equal(roomL, beforeL) || !alikeOrders(copyOfOrders(roomO), beforeO) {
				t.Fatalf("shared: %q, %v", roomL, roomO)
			}
		}
	}
}

func TestWhatIsBehindOrdersIsNotRead(t *testing.T) {
	for _, c := range slices.Concat(placeCases(), turnCases()) {
		for _, text := range [][]string{fourLines(), linesBy("abc.d")} {
			l, _ := within(text)
			o, _ := ordersWithin(c.o)
			checkRun(t, c.name, l, o, c.want, 0)
			checkOrders(t, c.name, o, textOfOrders(c.o))
		}
	}
	for _, c := range slices.Concat(edCases(), dotCases()) {
		l, _ := within(c.l)
		h, _ := hunksWithin(c.h)
		checkEd(t, c.name, l, h, c.want, c.text)
	}
	// With the line behind them, the lines would be far enough.
	l, _ := within(fourLines())
	for _, c := range farCases() {
		checkRun(t, c.name, l, c.o, nil, impl.PtFar)
	}
	for name, k := range badOrders() {
		o, _ := ordersWithin(orders{k})
		checkBadOrders(t, name, o)
	}
}

func TestNoOrdersAreKept(t *testing.T) {
	for _, c := range slices.Concat(edCases(), dotCases()) {
		for range 2 {
			checkEd(t, c.name, c.l, c.h, c.want, c.text)
			callOrders(c.l, c.h, c.want)
			toEditor.checkNone(t, "a fault between", c.text+"x")
			checkNotRun(t, "a fault between", linesBy(".ab"), c.want)
			checkRun(t, "a fault between", c.l, append(slices.Clone(c.want), dropFrom(900, 900)), nil, impl.PtFar)
			checkBadOrders(t, "a fault between", append(slices.Clone(c.want), impl.Order{}))
		}
	}
}
