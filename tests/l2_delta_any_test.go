package tests

import (
	"math"
	"slices"
	"strings"
	"testing"

	"loop.example/g00825/impl"
)

// badHunks are hunks that are not good for 4 lines, by what is wrong with them.
func badHunks() map[string]hunks {
	x := []string{"x\n"}
	return map[string]hunks{
		"At below 0":                      {{At: -1, Gone: 1}},
		"At below 0, Gone more":           {{At: -1, Gone: 2, New: x}},
		"At least of all":                 {{At: math.MinInt, New: x}},
		"At least, Gone most":             {{At: math.MinInt, Gone: math.MaxInt}},
		"Gone below 0":                    {{At: 1, Gone: -1}},
		"Gone below 0, with lines":        {{At: 1, Gone: -1, New: x}},
		"Gone least of all":               {{At: 1, Gone: math.MinInt, New: x}},
		"At beyond":                       {{At: 5, New: x}},
		"At most of all":                  {{At: math.MaxInt, New: x}},
		"Gone beyond":                     {{At: 0, Gone: 5}},
		"both added beyond":               {{At: 2, Gone: 3}},
		"At at the end, Gone beyond":      {{At: 4, Gone: 1}},
		"Gone most of all":                {{At: 0, Gone: math.MaxInt}},
		"added more than an int holds":    {{At: 1, Gone: math.MaxInt}},
		"added more than an int, to 0":    {{At: math.MinInt, Gone: math.MinInt, New: x}},
		"added more than an int, both":    {{At: math.MaxInt, Gone: math.MaxInt, New: x}},
		"with nothing":                    {{At: 1}},
		"with an empty list":              {{At: 1, New: []string{}}},
		"with nothing, at 0":              {{}},
		"the last with nothing":           {{Gone: 1}, {At: 3}},
		"an empty line":                   {{At: 1, New: []string{""}}},
		"an empty line, Gone":             {{At: 1, Gone: 1, New: []string{"x\n", ""}}},
		"byte 10 within a line":           {{At: 1, New: []string{"x\ny\n"}}},
		"byte 10 twice":                   {{At: 1, New: []string{"x\n", "\n\n"}}},
		"too long a line":                 {{At: 1, New: []string{full(impl.MaxLine + 1)}}},
		"too long a last line":            {{At: 4, New: []string{strings.Repeat("f", impl.MaxLine+1)}}},
		"too many lines":                  {{Gone: 4, New: manyLines(impl.MaxLines + 1)}},
		"much too many lines":             {{At: 1, Gone: 1, New: manyLines(10000)}},
		"side by side":                    {{Gone: 1}, {At: 1, Gone: 1}},
		"side by side, only lines come":   {{Gone: 1}, {At: 1, New: x}},
		"side by side, lines come ahead":  {{At: 1, New: x}, {At: 1, Gone: 1}},
		"twice at one place":              {{At: 1, New: x}, {At: 1, New: x}},
		"twice at the first place":        {{New: x}, {New: x}},
		"one over the other":              {{Gone: 3}, {At: 2, Gone: 1}},
		"not in order":                    {{At: 2, Gone: 1}, {At: 0, Gone: 1}},
		"the last of three side by side":  {{New: x}, {At: 2, Gone: 1}, {At: 3, Gone: 1}},
		"the second beyond":               {{Gone: 1}, {At: 3, Gone: 2}},
		"the second, more than an int":    {{Gone: 1}, {At: 3, Gone: math.MaxInt}},
		"the first, more than an int":     {{At: 1, Gone: math.MaxInt}, {At: 3, New: x}},
		"more than most hunks":            slices.Repeat(hunks{{At: 1, New: x}}, impl.MaxHunks+1),
		"much more than most hunks":       slices.Repeat(hunks{{Gone: 1}}, 10000),
		"more than most, all with a line": everySecond(impl.MaxHunks+1, 1, x),
	}
}

func fourLines() []string { return []string{"a\n", "b\n", "c\n", "d\n"} }

// badManys are numbers of lines that there can not be.
func badManys() []int {
	return []int{math.MinInt, -impl.MaxLines, -1, impl.MaxLines + 1, math.MaxInt}
}

func TestGoodHunks(t *testing.T) {
	long := []string{full(impl.MaxLine), strings.Repeat("f", impl.MaxLine)}
	good := map[string]hunks{
		"none":                       nil,
		"first line":                 {{Gone: 1}},
		"behind the last":            {{At: 4, New: []string{"x\n"}}},
		"all":                        {{Gone: 4, New: manyLines(impl.MaxLines)}},
		"one line between":           {{Gone: 1}, {At: 2, Gone: 2}},
		"one line between what came": {{New: []string{"x\n"}}, {At: 1, New: []string{"x\n"}}},
		"at each place":              {{New: long}, {At: 1, New: long}, {At: 2, New: long}, {At: 3, New: long}, {At: 4, New: long}},
		"lines without an end":       {{At: 1, New: []string{"x", "y", "z\n", "w"}}},
		"lines with any bytes":       {{At: 1, New: []string{"\xff\n", "\xe2\n", "\x00"}}},
	}
	for name, h := range good {
		if !impl.GoodHunks(4, h) {
			t.Errorf("%s: good, but not told: %#v", name, h)
		}
	}
	for name, h := range badHunks() {
		if impl.GoodHunks(4, h) {
			t.Errorf("%s: not good, but told: %#v", name, h)
		}
	}
	for _, many := range badManys() {
		if impl.GoodHunks(many, nil) || impl.GoodHunks(many, hunks{{Gone: 1}}) || impl.GoodHunks(many, hunks{{New: []string{"x\n"}}}) {
			t.Errorf("good for %d lines", many)
		}
	}
	if !impl.GoodHunks(0, nil) || !impl.GoodHunks(impl.MaxLines, hunks{{At: impl.MaxLines - 1, Gone: 1}}) {
		t.Error("not good for no lines, or for most")
	}
	if impl.GoodHunks(3, hunks{{At: 3, Gone: 1}}) || impl.GoodHunks(3, hunks{{At: 4, New: []string{"x\n"}}}) {
		t.Error("good beyond the lines")
	}
}

func TestGoodHunksOfAllSmall(t *testing.T) {
	numbers := []int{-1, 0, 1, 2, 3}
	news := [][]string{nil, {"x"}, {""}}
	var singles hunks
	for _, at := range numbers {
		for _, gone := range numbers {
			for _, lines := range news {
				singles = append(singles, impl.Hunk{At: at, Gone: gone, New: lines})
			}
		}
	}
	for many := 0; many <= 2; many++ {
		told := 0
		for _, j := range singles {
			if impl.GoodHunks(many, hunks{j}) {
				told++
			}
			for _, k := range singles {
				if impl.GoodHunks(many, hunks{j, k}) {
					told++
				}
			}
		}
		// Only lists of one hunk and of two are tried above.
		want := 0
		for _, h := range hunksFor(many, [][]string{nil, {"x"}}) {
			if len(h) == 1 || len(h) == 2 {
				want++
			}
		}
		if told != want {
			t.Errorf("for %d lines %d are told, not %d", many, told, want)
		}
	}
}

func TestBadHunksGetTheZeroAnswer(t *testing.T) {
	for name, h := range badHunks() {
		checkNone(t, name, fourLines(), h)
		for k := -1; k <= 5; k++ {
			if n, ok := impl.PlaceOf(h, 4, k); n != 0 || ok {
				t.Errorf("%s: PlaceOf %d = %d, %v", name, k, n, ok)
			}
		}
	}
}

func TestBadLinesGetNoHunks(t *testing.T) {
	for name, l := range badLists() {
		for _, h := range []hunks{nil, {{New: []string{"x\n"}}}, {{Gone: 1}}, {{Gone: len(l)}}, {{Gone: len(l), New: []string{"x\n"}}}} {
			checkNone(t, name, l, h)
		}
	}
}

func TestPlaceOfWhereThereIsNone(t *testing.T) {
	h := hunks{{At: 1, Gone: 1}}
	for _, k := range []int{math.MinInt, -1, 5, impl.MaxLines, math.MaxInt} {
		if n, ok := impl.PlaceOf(h, 4, k); n != 0 || ok {
			t.Errorf("PlaceOf %d = %d, %v", k, n, ok)
		}
	}
	if n, ok := impl.PlaceOf(nil, impl.MaxLines, impl.MaxLines+1); n != 0 || ok {
		t.Errorf("PlaceOf beyond most = %d, %v", n, ok)
	}
	for _, many := range badManys() {
		for _, k := range []int{math.MinInt, -1, 0, 1, many, many - 1, math.MaxInt} {
			if n, ok := impl.PlaceOf(nil, many, k); n != 0 || ok {
				t.Errorf("PlaceOf %d of %d = %d, %v", k, many, n, ok)
			}
		}
	}
}

func TestCountHunksThatAreNotAsSaid(t *testing.T) {
	cases := map[string]hunks{
		"Gone below 0":                 {{Gone: -1, New: []string{"x\n"}}},
		"Gone least of all":            {{Gone: math.MinInt}},
		"the last Gone below 0":        {{Gone: 3}, {Gone: -1}},
		"more than most":               slices.Repeat(hunks{{Gone: 1}}, impl.MaxHunks+1),
		"more than most, with nothing": make(hunks, impl.MaxHunks+1),
		"more than an int holds":       {{Gone: math.MaxInt}, {Gone: 1}},
		"more than an int, to 0":       {{Gone: math.MaxInt}, {Gone: math.MaxInt}, {Gone: 2}},
	}
	for name, h := range cases {
		if gone, come, ok := impl.CountHunks(h); gone != 0 || come != 0 || ok {
			t.Errorf("%s: %d, %d, %v", name, gone, come, ok)
		}
	}
	if gone, come, ok := impl.CountHunks(hunks{{Gone: math.MaxInt - 1}, {}, {Gone: 1}}); gone != math.MaxInt || come != 0 || !ok {
		t.Errorf("as much as an int holds: %d, %d, %v", gone, come, ok)
	}
}

// hunksWithin puts hunks, and the lines of each, into larger arrays; the second answer is all of the hunks' array.
func hunksWithin(h hunks) (hunks, hunks) {
	stranger := impl.Hunk{At: -3, Gone: -3, New: []string{"stranger\n"}}
	room := slices.Concat(hunks{stranger}, h, hunks{stranger, stranger})
	for i := range room {
		room[i].New, _ = within(room[i].New)
	}
	return room[1 : 1+len(h)], room
}

// deepCopy is a copy with all of each New up to its capacity.
func deepCopy(h hunks) hunks {
	all := slices.Clone(h)
	for i, k := range h {
		all[i].New = slices.Clone(k.New[:cap(k.New)])
	}
	return all
}

// unchanged says whether the array holds still what it did.
func unchanged(room, before hunks) bool {
	return alike(deepCopy(room), before)
}

func spoilLines(l []string) {
	for i := range l[:cap(l)] {
		l[:cap(l)][i] = "mine"
	}
}

// spoil writes into all memory that an answer hands out.
func spoil(h hunks) {
	for _, k := range h[:cap(h)] {
		spoilLines(k.New)
		_ = append(k.New, "mine")
	}
	for i := range h[:cap(h)] {
		h[:cap(h)][i] = impl.Hunk{At: -9, Gone: -9}
	}
}

// checkApart expects that no two lists of an answer share memory, and that nothing lies behind them.
func checkApart(t *testing.T, name string, h hunks) {
	t.Helper()
	for _, k := range h[len(h):cap(h)] {
		if k.At != 0 || k.Gone != 0 || k.New != nil {
			t.Errorf("%s hands out %#v", name, k)
		}
	}
	for i, k := range h {
		for _, line := range k.New[len(k.New):cap(k.New)] {
			if line != "" {
				t.Errorf("%s hands out %q", name, line)
			}
		}
		all := k.New[:cap(k.New)]
		for j := range all {
			all[j] = string(rune('A' + i))
		}
	}
	for i, k := range h {
		for _, line := range k.New[:cap(k.New)] {
			if line != string(rune('A'+i)) {
				t.Errorf("%s: two lists of the answer share memory", name)
			}
		}
	}
}

// hunkCalls are the functions that answer with hunks.
func hunkCalls() map[string]func(l []string, a, b hunks) (hunks, bool) {
	return map[string]func(l []string, a, b hunks) (hunks, bool){
		"BackHunks":    func(l []string, a, _ hunks) (hunks, bool) { return impl.BackHunks(l, a) },
		"TrimHunks":    func(l []string, a, _ hunks) (hunks, bool) { return impl.TrimHunks(l, a) },
		"JoinHunks":    impl.JoinHunks,
		"JoinHunks, a": func(l []string, a, _ hunks) (hunks, bool) { return impl.JoinHunks(l, a, nil) },
		"JoinHunks, b": func(l []string, a, _ hunks) (hunks, bool) { return impl.JoinHunks(l, nil, a) },
	}
}

// callHunks calls each function of the layer and writes into what it answers.
func callHunks(l []string, a, b hunks) {
	impl.GoodHunks(len(l), a)
	impl.SameHunks(a, b)
	impl.CountHunks(a)
	impl.PlaceOf(a, len(l), 1)
	made, _ := impl.Patch(l, a)
	spoilLines(made)
	for _, call := range hunkCalls() {
		h, _ := call(l, a, b)
		spoil(h)
	}
}

func TestNoHunksAreChanged(t *testing.T) {
	lists := []hunks{nil, {{Gone: 4}}, {{Gone: 2, New: []string{"a\n", "b\n"}}}, {{New: []string{"x\n"}}, {At: 2, Gone: 2, New: []string{"x\n", "d\n"}}}}
	lists = append(lists, hunks{{Gone: 4, New: fourLines()}}, hunks{{At: 4, New: []string{"x\n", "y"}}}, everySecond(2, 1, []string{"x\n"}), everySecond(3, 0, []string{"x\n"}))
	for _, h := range badHunks() {
		lists = append(lists, h)
	}
	texts := [][]string{nil, fourLines(), {"a\n", "b\n", "c\n", "d"}, {"a", "b\n"}}
	for _, l := range texts {
		for _, g := range lists {
			for _, h := range lists {
				l, roomL := within(l)
				a, roomA := hunksWithin(g)
				b, roomB := hunksWithin(h)
				beforeL, beforeA, beforeB := slices.Clone(roomL), deepCopy(roomA), deepCopy(roomB)
				callHunks(l, a, b)
				if !slices.Equal(roomL, beforeL) || !unchanged(roomA, beforeA) || !unchanged(roomB, beforeB) {
					t.Fatalf("changed: %q, %#v, %#v", l, g, h)
				}
			}
		}
	}
}

func TestListsOfOneAnswerShareNoMemory(t *testing.T) {
	x := []string{"x\n"}
	for name, call := range hunkCalls() {
		for _, a := range []hunks{everySecond(2, 1, x), everySecond(3, 0, x), everySecond(2, 2, nil)[:1], {{Gone: 1}, {At: 2, Gone: 1}}} {
			h, ok := call(fourLines(), a, hunks{{New: []string{"y\n"}}})
			if !ok || len(h) == 0 {
				t.Fatalf("%s of %#v tells %#v, %v", name, a, h, ok)
			}
			checkApart(t, name, h)
		}
	}
}

func TestWhatIsBehindHunksIsNotRead(t *testing.T) {
	l := fourLines()
	for _, h := range []hunks{nil, {{Gone: 1}}, {{Gone: 2, New: []string{"x\n", "b\n"}}, {At: 3, New: []string{"y\n"}}}, {{At: 4, New: []string{"e"}}}} {
		alone := slices.Clone(h)
		for i := range alone {
			alone[i].New = slices.Clip(slices.Clone(alone[i].New))
		}
		inRoom, _ := hunksWithin(h)
		inLarger, _ := within(l)
		if !impl.GoodHunks(4, inRoom) || !impl.SameHunks(inRoom, alone) {
			t.Errorf("not the same, or not good: %#v", inRoom)
		}
		want, _ := impl.Patch(l, alone)
		checkPatch(t, "in a larger array", inLarger, inRoom, want)
		for name, call := range hunkCalls() {
			want, _ := call(l, alone, hunks{})
			got, ok := call(inLarger, inRoom, hunks{})
			checkHunks(t, name, got, ok, want)
		}
	}
}

func TestNoHunksAreKept(t *testing.T) {
	a, b := hunks{{Gone: 1, New: []string{"x\n"}}, {At: 2, Gone: 1}}, hunks{{Gone: 1, New: []string{"y\n"}}}
	for name, call := range hunkCalls() {
		first, ok := call(fourLines(), a, b)
		want := deepCopy(first)
		for i := range want {
			want[i].New = want[i].New[:len(first[i].New)]
		}
		spoil(first)
		again, okAgain := call(fourLines(), a, b)
		checkHunks(t, name, again, ok && okAgain, want)
	}
}
