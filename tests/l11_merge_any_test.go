package tests

import (
	"math"
	"slices"
	"strings"
	"testing"

	"loop.example/g00825/impl"
)

// badParts are parts that are not good for the lines a to d, by what is wrong with them.
func badParts() map[string]parts {
	same := sameBy(0, 4, "abcd")
	ahead := sameBy(0, 2, "ab")
	tooMany := manyLines(impl.MaxLines + 1)
	// rest has what is wrong in a part that would be good otherwise.
	rest := func(kind int, left, right []string) parts {
		return parts{ahead, partOf(kind, 2, 4, left, right)}
	}
	own := linesBy("cd")
	return map[string]parts{
		"none":                            nil,
		"the first begins behind base's":  {sameBy(1, 4, "bcd")},
		"the first begins below 0":        {sameBy(-1, 4, "abcd")},
		"the first begins least of all":   {sameBy(math.MinInt, 4, "abcd")},
		"From behind the end of the one":  {ahead, partBy(impl.MgLeft, 3, 4, "x", "d")},
		"From ahead of the end":           {ahead, partBy(impl.MgLeft, 1, 4, "x", "bcd")},
		"From ahead of the end, the same": {ahead, sameBy(0, 4, "abcd")},
		"From most of all":                {ahead, partBy(impl.MgLeft, math.MaxInt, 4, "x", "")},
		"From and To most of all":         {ahead, partBy(impl.MgLeft, math.MaxInt, math.MaxInt, "x", "")},
		"From least of all":               {ahead, partBy(impl.MgLeft, math.MinInt, 4, "x", "cd")},
		"not in order":                    {sameBy(2, 4, "cd"), partBy(impl.MgLeft, 0, 2, "x", "ab")},
		"To below From":                   {ahead, partBy(impl.MgLeft, 2, 1, "x", ""), partBy(impl.MgRight, 1, 4, "bcd", "x")},
		"To below 0":                      {partBy(impl.MgLeft, 0, -1, "x", ""), same},
		"To below 0, all":                 {partBy(impl.MgLeft, 0, -1, "x", "")},
		"To least of all":                 {partBy(impl.MgLeft, 0, math.MinInt, "x", ""), same},
		"To beyond base":                  {partBy(impl.MgLeft, 0, 5, "x", "abcd")},
		"To beyond base, with more lines": {sameBy(0, 5, "abcde")},
		"To most of all":                  {partBy(impl.MgLeft, 0, math.MaxInt, "x", "abcd")},
		"the second's To beyond base":     {ahead, partBy(impl.MgLeft, 2, 5, "x", "cd")},
		"the second's To most of all":     {ahead, partBy(impl.MgClash, 2, math.MaxInt, "x", "y")},
		"they end ahead of base's end":    {sameBy(0, 3, "abc")},
		"they end at the first place":     {partBy(impl.MgClash, 0, 0, "x", "y")},
		"the last ends ahead":             {ahead, partBy(impl.MgLeft, 2, 3, "x", "c")},
		"one more behind the end":         {same, partBy(impl.MgClash, 5, 5, "x", "y")},
		"one more from the beginning":     {same, partBy(impl.MgClash, 0, 4, "x", "y")},
		"two MgSame side by side":         {ahead, sameBy(2, 4, "cd")},
		"two of three MgSame":             {partBy(impl.MgLeft, 0, 1, "", "a"), sameBy(1, 2, "b"), sameBy(2, 4, "cd")},
		"an empty MgSame first":           {sameBy(0, 0, ""), partBy(impl.MgLeft, 0, 4, "", "abcd")},
		"an empty MgSame last":            {partBy(impl.MgLeft, 0, 4, "", "abcd"), sameBy(4, 4, "")},
		"an empty MgSame behind MgSame":   {same, sameBy(4, 4, "")},
		"an empty MgLeft":                 {same, partBy(impl.MgLeft, 4, 4, "", "")},
		"an empty MgRight":                {same, partBy(impl.MgRight, 4, 4, "", "")},
		"an empty MgBoth":                 {same, partBy(impl.MgBoth, 4, 4, "", "")},
		"MgSame, left is another":         rest(impl.MgSame, linesBy("cx"), own),
		"MgSame, right is another":        rest(impl.MgSame, own, linesBy("c")),
		"MgSame, both are others":         rest(impl.MgSame, linesBy("x"), linesBy("x")),
		"MgLeft, right is another":        rest(impl.MgLeft, linesBy("x"), linesBy("c.d")),
		"MgLeft, left is none":            rest(impl.MgLeft, own, own),
		"MgLeft, only right is one":       rest(impl.MgLeft, own, linesBy("x")),
		"MgLeft, both are":                rest(impl.MgLeft, linesBy("x"), linesBy("x")),
		"MgRight, left is another":        rest(impl.MgRight, linesBy("dc"), linesBy("x")),
		"MgRight, right is none":          rest(impl.MgRight, own, own),
		"MgRight, only left is one":       rest(impl.MgRight, linesBy("x"), own),
		"MgRight, both are":               rest(impl.MgRight, linesBy("x"), linesBy("x")),
		"MgBoth, both are base's":         rest(impl.MgBoth, own, own),
		"MgBoth, left is base's":          rest(impl.MgBoth, own, linesBy("x")),
		"MgBoth, right is base's":         rest(impl.MgBoth, linesBy("x"), own),
		"MgBoth, they are not the same":   rest(impl.MgBoth, linesBy("x"), linesBy(".x")),
		"MgClash, all are the same":       rest(impl.MgClash, own, own),
		"MgClash, left is base's":         rest(impl.MgClash, own, linesBy("x")),
		"MgClash, right is base's":        rest(impl.MgClash, nil, own),
		"MgClash, both are the same":      rest(impl.MgClash, linesBy("x"), linesBy("x")),
		"MgClash, both are nothing":       rest(impl.MgClash, nil, nil),
		"kind 0":                          rest(0, own, own),
		"a kind below":                    rest(impl.MgSame-1, linesBy("x"), linesBy("y")),
		"a kind above":                    rest(impl.MgClash+1, linesBy("x"), linesBy("y")),
		"a kind below 0":                  rest(-1, own, own),
		"the least kind of all":           rest(math.MinInt, own, own),
		"the most kind of all":            rest(math.MaxInt, linesBy("x"), linesBy("y")),
		"a kind above 32 bits":            rest(1<<32+impl.MgSame, own, own),
		"the first of a kind below":       {partBy(0, 0, 0, "x", "y"), same},
		"too many lines of left":          rest(impl.MgLeft, tooMany, own),
		"too many lines of right":         rest(impl.MgRight, own, tooMany),
		"too many lines of both":          rest(impl.MgBoth, tooMany, slices.Clone(tooMany)),
		"too many lines of a clash":       rest(impl.MgClash, linesBy("x"), tooMany),
		"much too many lines":             rest(impl.MgLeft, manyLines(10000), own),
		"an empty line of left":           rest(impl.MgLeft, []string{""}, own),
		"an empty line of right":          rest(impl.MgRight, own, []string{"c\n", "", "d\n"}),
		"an empty line of both":           rest(impl.MgBoth, []string{"x\n", ""}, []string{"x\n", ""}),
		"byte 10 within a line of left":   rest(impl.MgLeft, []string{"c\nd\n"}, own),
		"byte 10 within one of right":     rest(impl.MgClash, nil, []string{"x\n", "x\ny"}),
		"too long a line of left":         rest(impl.MgClash, []string{full(impl.MaxLine + 1)}, nil),
		"too long a line of right":        rest(impl.MgRight, own, []string{strings.Repeat("f", impl.MaxLine+1)}),
		"more than most":                  append(slices.Repeat(parts{partBy(impl.MgLeft, 0, 0, "x", "")}, 3*impl.MaxLines), same),
		"more than most, of nothing":      append(parts{same}, slices.Repeat(parts{partBy(impl.MgClash, 4, 4, "", "")}, 3*impl.MaxLines)...),
		"much more than most":             append(slices.Repeat(parts{partBy(impl.MgRight, 0, 0, "", "x")}, 10000), same),
	}
}

// checkNoThree expects each function of three texts to answer with nothing.
func checkNoThree(t *testing.T, name string, base, left, right []string) {
	t.Helper()
	if p, ok := impl.PartsOf(base, left, right); len(p) != 0 || ok {
		t.Errorf("%s: PartsOf(%.80q, %.80q, %.80q) = %#v, %v", name, base, left, right, p, ok)
	}
	checkNotMerged(t, name, base, left, right)
	if s, ok := impl.MarkedText(base, left, right); s != "" || ok {
		t.Errorf("%s: MarkedText(%.80q, %.80q, %.80q) = %q, %v", name, base, left, right, s, ok)
	}
}

func TestBadLinesGetNoParts(t *testing.T) {
	for name, l := range badLists() {
		for _, m := range [][]string{nil, fourLines(), linesBy("a.b"), manyLines(impl.MaxLines)} {
			for _, n := range [][]string{nil, fourLines(), m} {
				checkNoThree(t, name+", base", l, m, n)
				checkNoThree(t, name+", left", m, l, n)
				checkNoThree(t, name+", right", m, n, l)
			}
			checkNoThree(t, name+", base and left", l, l, m)
			checkNoThree(t, name+", base and right", l, m, l)
			checkNoThree(t, name+", left and right", m, l, l)
		}
		checkNoThree(t, name+", all", l, l, l)
		for other, m := range badLists() {
			checkNoThree(t, name+" and "+other, l, m, nil)
			checkNoThree(t, name+" and "+other, nil, l, m)
		}
	}
}

func TestBadLinesHaveNoSides(t *testing.T) {
	for name, l := range badLists() {
		n := len(l)
		for _, p := range []parts{nil, {partOf(impl.MgSame, 0, n, l, l)}, {partOf(impl.MgLeft, 0, n, linesBy("x"), l)}, {partOf(impl.MgBoth, 0, n, nil, nil)}, {partOf(impl.MgClash, 0, n, linesBy("x"), nil)}} {
			checkGoodParts(t, name, l, p, false)
			for side := range 3 {
				checkNoSideTaken(t, name, l, p, side)
			}
		}
	}
}

func TestBadPartsHaveNoSides(t *testing.T) {
	for name, p := range badParts() {
		checkGoodParts(t, name, fourLines(), p, false)
		for side := range 3 {
			checkNoSideTaken(t, name, fourLines(), p, side)
		}
	}
	for _, letters := range []string{"", "abc", "abcde", "xbcd", "axcd", "bacd", "abxd", "abc.d"} {
		for side := range 3 {
			checkNoSideTaken(t, "parts for other lines", linesBy(letters), parts{sameBy(0, 4, "abcd")}, side)
		}
	}
	// Where neither side has base's lines the parts do not tell them, so these may be others.
	for _, letters := range []string{"", "abc", "abcde", "xbcd", "axcd", "bacd"} {
		for side := range 3 {
			checkNoSideTaken(t, "parts of all kinds for other lines", linesBy(letters), allKinds(), side)
		}
	}
	checkTaken(t, "other lines where neither side has them", linesBy("abxy"), allKinds(), 1, linesBy("axv.w"))
}

func TestSidesThatAreNone(t *testing.T) {
	for _, side := range []int{math.MinInt, -3, -1, 3, 4, math.MaxInt, 1 << 32, 1<<32 + 1} {
		checkNoSideTaken(t, "no such side", fourLines(), allKinds(), side)
		checkNoSideTaken(t, "no such side, no lines", nil, nil, side)
		checkNoSideTaken(t, "no such side, bad parts", fourLines(), nil, side)
	}
}

func TestPartsThatAreNotOfKinds(t *testing.T) {
	const most = 3 * impl.MaxLines
	cases := map[string]parts{
		"one more than most":       slices.Repeat(parts{oneOfKind(impl.MgClash)}, most+1),
		"one more than most, good": slices.Repeat(parts{partBy(impl.MgLeft, 0, 0, "x", "")}, most+1),
		"much more than most":      slices.Repeat(parts{sameBy(0, 1, "a")}, 100000),
	}
	for _, kind := range []int{impl.MgSame - 1, impl.MgClash + 1, -1, 100, math.MinInt, math.MaxInt, 1<<32 + impl.MgClash} {
		cases["one of another kind"] = parts{oneOfKind(kind)}
		cases["the first of another kind"] = parts{oneOfKind(kind), sameBy(0, 1, "a")}
		cases["the last of another kind"] = parts{oneOfKind(impl.MgClash), oneOfKind(impl.MgLeft), oneOfKind(kind)}
		cases["the last of most"] = append(slices.Repeat(parts{oneOfKind(impl.MgClash)}, most-1), oneOfKind(kind))
		for name, p := range cases {
			if n, ok := impl.ClashesIn(p); n != 0 || ok {
				t.Errorf("%s, %d: ClashesIn = %d, %v", name, kind, n, ok)
			}
			if s, ok := impl.SwapSides(p); len(s) != 0 || ok {
				t.Errorf("%s, %d: SwapSides = %v, %v", name, kind, s, ok)
			}
		}
	}
	// All but kinds and how many there are is not asked for here.
	for name, p := range badParts() {
		n := 0
		for _, k := range p {
			if k.Kind < impl.MgSame || k.Kind > impl.MgClash {
				n = len(p)
			}
		}
		if n > 0 || len(p) > most {
			continue
		}
		_, clashes := mergedBy(p)
		checkClashes(t, name, p, clashes)
		checkSwapped(t, name, p)
	}
	ends := parts{partOf(impl.MgRight, math.MaxInt, math.MinInt, []string{"", "\n\n"}, slices.Repeat([]string{"r"}, 10000))}
	checkClashes(t, "ends of what an int holds", ends, 0)
	checkSwapped(t, "ends of what an int holds", ends)
}

func TestAnyBytesInThreeTexts(t *testing.T) {
	for first := range 256 {
		one := string([]byte{byte(first)})
		if one == "\n" {
			continue
		}
		base, left, right := []string{one + "\n", "\xff\xfe\n", "end\n"}, []string{one + "\xe2\n", "\xff\xfe\n", "end\n"}, []string{one + "\n", "\xff\xfe\n", "\x00" + one}
		checkThree(t, "any bytes", base, left, right, parts{
			partOf(impl.MgLeft, 0, 1, left[:1], base[:1]), partOf(impl.MgSame, 1, 2, base[1:2], base[1:2]), partOf(impl.MgRight, 2, 3, base[2:], right[2:]),
		})
		checkUnchangedSide(t, "any bytes", base, right)
		checkThree(t, "any bytes, a clash", nil, []string{one + one}, []string{one + "\n"}, parts{partOf(impl.MgClash, 0, 0, []string{one + one}, []string{one + "\n"})})
	}
}

// partsWithin puts parts, and the lines of each, into larger arrays; the second answer is all of the parts' array.
func partsWithin(p parts) (parts, parts) {
	stranger := partBy(-3, -3, -3, "s", "t")
	room := slices.Concat(parts{stranger}, p, parts{stranger, stranger})
	for i := range room {
		room[i].Left, _ = within(room[i].Left)
		room[i].Right, _ = within(room[i].Right)
	}
	return room[1 : 1+len(p)], room
}

// copyOfParts is a copy with all of each list up to its capacity.
func copyOfParts(p parts) parts {
	all := slices.Clone(p)
	for i, k := range p {
		all[i].Left = slices.Clone(k.Left[:cap(k.Left)])
		all[i].Right = slices.Clone(k.Right[:cap(k.Right)])
	}
	return all
}

// spoilParts writes into all memory that an answer hands out.
func spoilParts(p parts) {
	for _, k := range p[:cap(p)] {
		spoilLines(k.Left)
		spoilLines(k.Right)
	}
	for i := range p[:cap(p)] {
		p[:cap(p)][i] = impl.Part{Kind: -9, From: -9, To: -9}
	}
}

// checkPartsApart expects that no two lists of an answer share memory, and that nothing lies behind them.
func checkPartsApart(t *testing.T, name string, p parts) {
	t.Helper()
	if !alikeParts(p[len(p):cap(p)], make(parts, cap(p)-len(p))) {
		t.Errorf("%s hands out %#v", name, p[:cap(p)])
	}
	var lists hunks
	for _, k := range p {
		lists = append(lists, impl.Hunk{New: k.Left}, impl.Hunk{New: k.Right})
	}
	checkApart(t, name, slices.Clip(lists))
}

// callThree calls each function of three texts and writes into what it answers.
func callThree(base, left, right []string) {
	p, _ := impl.PartsOf(base, left, right)
	spoilParts(p)
	l, _ := impl.Merge(base, left, right)
	spoilLines(l)
	impl.MarkedText(base, left, right)
}

// callParts calls each function of parts and writes into what it answers.
func callParts(base []string, p parts) {
	impl.GoodParts(base, p)
	impl.ClashesIn(p)
	s, _ := impl.SwapSides(p)
	spoilParts(s)
	for side := -1; side <= 3; side++ {
		l, _ := impl.TakeSide(base, p, side)
		spoilLines(l)
	}
}

func TestNoTextIsChangedByThree(t *testing.T) {
	lists := [][]string{nil, fourLines(), linesBy("acd"), linesBy("abxd"), linesBy("abc.d"), linesBy("xyz"), {"a", "b\n"}, manyLines(impl.MaxLines), manyLines(impl.MaxLines + 1)}
	for _, base := range lists {
		for _, left := range lists {
			for _, right := range lists {
				a, roomA := within(base)
				b, roomB := within(left)
				c, roomC := within(right)
				before := slices.Concat(roomA, roomB, roomC)
				callThree(a, b, c)
				callThree(a, a, a)
				callThree(a, b, b)
				if !slices.Equal(slices.Concat(roomA, roomB, roomC), before) {
					t.Fatalf("changed: %q, %q, %q", base, left, right)
				}
			}
		}
	}
}

func TestNoPartsAreChanged(t *testing.T) {
	lists := badParts()
	lists["all kinds"] = allKinds()
	lists["all the same"] = parts{sameBy(0, 4, "abcd")}
	lists["not of kinds"] = parts{oneOfKind(1), oneOfKind(5), oneOfKind(3)}
	for name, p := range lists {
		for _, base := range [][]string{nil, fourLines(), linesBy("abc.d"), {"a", "b\n"}} {
			l, roomL := within(base)
			in, room := partsWithin(p)
			beforeL, before := slices.Clone(roomL), copyOfParts(room)
			callParts(l, in)
			if !slices.Equal(roomL, beforeL) || !alikeParts(copyOfParts(room), before) {
				t.Fatalf("%s: changed", name)
			}
		}
	}
}

func TestListsOfPartsShareNoMemory(t *testing.T) {
	lists := [][]string{fourLines(), linesBy("acd"), linesBy("xabxd"), linesBy("abc.y"), linesBy("xyz"), nil, manyLines(impl.MaxLines)}
	for _, base := range lists {
		for _, left := range lists {
			for _, right := range lists {
				p, ok := impl.PartsOf(base, left, right)
				if !ok {
					t.Fatalf("no parts of %q, %q, %q", base, left, right)
				}
				s, _ := impl.SwapSides(p)
				checkPartsApart(t, "SwapSides", s)
				for side := range 3 {
					l, _ := impl.TakeSide(base, p, side)
					checkApart(t, "TakeSide", hunks{{New: l}})
				}
				checkPartsApart(t, "PartsOf", p)
				l, _ := impl.Merge(base, left, right)
				checkApart(t, "Merge", hunks{{New: l}})
			}
		}
	}
	// All three texts, and both sides of a part, may be one and the same memory.
	l := fourLines()
	p, _ := impl.PartsOf(l, l, l)
	checkPartsApart(t, "PartsOf, of one list", p)
	s, _ := impl.SwapSides(parts{partOf(impl.MgSame, 0, 4, l, l), partOf(impl.MgBoth, 0, 4, l[:2], l[:2]), partOf(impl.MgClash, 0, 4, l[:1], l[1:])})
	checkPartsApart(t, "SwapSides, of one list", s)
	taken, _ := impl.TakeSide(l, parts{partOf(impl.MgSame, 0, 4, l, l)}, 1)
	spoilLines(taken)
	taken, _ = impl.TakeSide(l, parts{partOf(impl.MgSame, 0, 4, l, l)}, 0)
	spoilLines(taken)
	merged, _ := impl.Merge(l, l, l)
	spoilLines(merged)
	if !slices.Equal(l, fourLines()) {
		t.Errorf("shared: %q", l)
	}
}

func TestWhatIsBehindIsNotInThree(t *testing.T) {
	for _, letters := range [][3]string{{"abcd", "abcd", "abcd"}, {"abcd", "axcd", "abcy"}, {"abcd", "xbcd", "ybcd"}, {"a.b", "ab", "c.b"}, {"", "ab", ""}, {"ab", "", "a"}, {"", "", ""}} {
		base, left, right := linesBy(letters[0]), linesBy(letters[1]), linesBy(letters[2])
		a, _ := within(base)
		b, _ := within(left)
		c, _ := within(right)
		want := partsBy(base, left, right, bestOfAll(base, left), bestOfAll(base, right))
		checkThree(t, "in a larger array", a, b, c, want)
		in, _ := partsWithin(want)
		checkGoodParts(t, "in a larger array", a, in, true)
		checkTaken(t, "in a larger array", a, in, 0, base)
		checkTaken(t, "in a larger array", a, in, 1, left)
		checkTaken(t, "in a larger array", a, in, 2, right)
		checkSwapped(t, "in a larger array", in)
	}
	// With the part that is behind, the parts would go up to base's end, or be too many.
	room := append(parts{sameBy(0, 2, "ab")}, partBy(impl.MgLeft, 2, 4, "", "cd"))
	checkGoodParts(t, "the last one is behind", fourLines(), room[:1], false)
	checkNoSideTaken(t, "the last one is behind", fourLines(), room[:1], 1)
	many := slices.Repeat(parts{oneOfKind(impl.MgClash)}, 3*impl.MaxLines+9)
	checkClashes(t, "more behind", many[:3*impl.MaxLines], 3*impl.MaxLines)
}

func TestNothingIsKeptOfThree(t *testing.T) {
	base, left, right := fourLines(), linesBy("xbcd"), linesBy("abcy")
	want := parts{partBy(impl.MgLeft, 0, 1, "x", "a"), sameBy(1, 3, "bc"), partBy(impl.MgRight, 3, 4, "d", "y")}
	for range 3 {
		checkThree(t, "again", base, left, right, want)
		callThree(base, left, right)
		callParts(base, want)
		checkNoThree(t, "a fault between", base, left, linesBy(".ab"))
		checkNoSideTaken(t, "a fault between", base, nil, 1)
	}
	left[0] = "a\n"
	checkThree(t, "after a change", base, left, right, parts{sameBy(0, 3, "abc"), partBy(impl.MgRight, 3, 4, "d", "y")})
}
