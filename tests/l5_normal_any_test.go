package tests

import (
	"math"
	"slices"
	"strings"
	"testing"

	"loop.example/g00825/impl"
)

// checkNoNormal expects no steps and no text of lines and hunks.
func checkNoNormal(t *testing.T, name string, l []string, h hunks) {
	t.Helper()
	if s, ok := impl.NormalText(l, h); s != "" || ok {
		t.Errorf("%s: NormalText(%#v, %#v) = %q, %v", name, l, h, s, ok)
	}
	if p, ok := impl.NormalSteps(l, h); len(p) != 0 || ok {
		t.Errorf("%s: NormalSteps(%#v, %#v) = %#v, %v", name, l, h, p, ok)
	}
}

// checkNoHunks expects no hunks, no lines and no code of lines and steps.
func checkNoHunks(t *testing.T, name string, l []string, p steps) {
	t.Helper()
	if h, code, ok := impl.StepsHunks(l, p); len(h) != 0 || code != 0 || ok {
		t.Errorf("%s: StepsHunks(%#v, %#v) = %#v, %d, %v", name, l, p, h, code, ok)
	}
	if made, code, ok := impl.ApplySteps(l, p); len(made) != 0 || code != 0 || ok {
		t.Errorf("%s: ApplySteps(%#v, %#v) = %#v, %d, %v", name, l, p, made, code, ok)
	}
}

// badSides are what one side of a step can not be, as From, To and Old.
func badSides() map[string]impl.Step {
	x := []string{"x\n"}
	return map[string]impl.Step{
		"first below 0":                     {From: -1, To: -1, Old: x},
		"first below 0, two lines":          {From: -1, To: 0, Old: []string{"x\n", "y\n"}},
		"first below 0, no lines":           {From: -1, To: -1},
		"least of all":                      {From: math.MinInt, To: math.MinInt, Old: x},
		"least of all, no lines":            {From: math.MinInt, To: math.MinInt},
		"first above 1000":                  {From: 1001, To: 1001, Old: x},
		"first above 1000, no lines":        {From: 1001, To: 1001},
		"last above 1000":                   {From: 1000, To: 1001, Old: []string{"x\n", "y\n"}},
		"most of all":                       {From: math.MaxInt, To: math.MaxInt, Old: x},
		"most of all, no lines":             {From: math.MaxInt, To: math.MaxInt},
		"a line too few":                    {From: 1, To: 2, Old: x},
		"a line too many":                   {From: 1, To: 1, Old: []string{"x\n", "y\n"}},
		"two lines too many":                {From: 2, To: 1, Old: []string{"x\n", "y\n"}},
		"last less, one line":               {From: 2, To: 1, Old: x},
		"last less by two":                  {From: 3, To: 1, Old: x},
		"last 0":                            {From: 1, To: 0, Old: x},
		"last below 0":                      {From: 1, To: -1, Old: x},
		"last least of all":                 {From: 1, To: math.MinInt, Old: x},
		"last most of all":                  {From: 1, To: math.MaxInt, Old: x},
		"first 0 with a line":               {From: 0, To: 0, Old: x},
		"first 0 with two lines":            {From: 0, To: 1, Old: []string{"x\n", "y\n"}},
		"first 0, one line up to 1":         {From: 0, To: 1, Old: x},
		"no lines, last more":               {From: 1, To: 2},
		"no lines, last less":               {From: 2, To: 1},
		"no lines, last less, from 1":       {From: 1, To: 0},
		"no lines, last 1000":               {From: 0, To: 1000},
		"an empty list, last more":          {From: 1, To: 2, Old: []string{}},
		"less, more than an int, to no":     {From: math.MinInt, To: math.MaxInt},
		"less, more than an int, with one":  {From: math.MinInt, To: math.MaxInt, Old: x},
		"less, more than an int, to two":    {From: math.MaxInt, To: math.MinInt, Old: []string{"x\n", "y\n"}},
		"less, more than an int, to one":    {From: math.MinInt + 1, To: math.MaxInt, Old: x},
		"an empty line":                     {From: 1, To: 1, Old: []string{""}},
		"an empty last line":                {From: 1, To: 2, Old: []string{"x\n", ""}},
		"byte 10 within":                    {From: 1, To: 1, Old: []string{"x\ny\n"}},
		"byte 10 within the last":           {From: 1, To: 2, Old: []string{"x\n", "x\ny"}},
		"byte 10 twice":                     {From: 1, To: 1, Old: []string{"\n\n"}},
		"too long":                          {From: 1, To: 1, Old: []string{full(impl.MaxLine + 1)}},
		"too long, no end":                  {From: 1, To: 1, Old: []string{strings.Repeat("f", impl.MaxLine+1)}},
		"no end ahead of the last":          {From: 1, To: 2, Old: []string{"x", "y\n"}},
		"no end ahead of one without":       {From: 1, To: 2, Old: []string{"x", "y"}},
		"no end within":                     {From: 1, To: 3, Old: []string{"x\n", "y", "z\n"}},
		"one line more than most":           {From: 1, To: 41, Old: manyLines(impl.MaxLines + 1)},
		"one more, the last without an end": {From: 1, To: 41, Old: append(manyLines(impl.MaxLines), "l")},
		"much more lines than most":         {From: 1, To: 1000, Old: manyLines(1000)},
		"more lines than numbers":           {From: 1, To: 10000, Old: manyLines(10000)},
	}
}

// badSteps are steps that are not good, by what is wrong with them.
func badSteps() map[string]steps {
	x := []string{"x\n"}
	bad := map[string]steps{
		"with nothing":           {{From: 1, To: 1, At: 1, End: 1}},
		"with nothing, all 0":    {{}},
		"with empty lists":       {{From: 1, To: 1, Old: []string{}, At: 1, End: 1, New: []string{}}},
		"the second has nothing": {stepOf(0, x, 0, nil), {From: 1, To: 1}},
		"more than most":         slices.Repeat(steps{stepOf(0, x, 0, nil)}, impl.MaxHunks+1),
		"much more than most":    slices.Repeat(steps{stepOf(0, nil, 0, x)}, 10000),
	}
	for name, s := range badSides() {
		turned := impl.Step{At: s.From, End: s.To, New: s.Old}
		bad["From and To: "+name] = steps{{From: s.From, To: s.To, Old: s.Old, At: 1, End: 1, New: x}}
		bad["From and To, alone: "+name] = steps{s}
		bad["At and End: "+name] = steps{{From: 1, To: 1, Old: x, At: s.From, End: s.To, New: s.Old}}
		bad["At and End, alone: "+name] = steps{turned}
		bad["the last one: "+name] = steps{stepOf(0, x, 0, nil), stepOf(2, x, 1, x), {From: s.From, To: s.To, Old: s.Old, At: 1, End: 1, New: x}}
		bad["both sides: "+name] = steps{{From: s.From, To: s.To, Old: s.Old, At: s.From, End: s.To, New: s.Old}}
	}
	return bad
}

func TestBadStepsGetTheZeroAnswer(t *testing.T) {
	for name, p := range badSteps() {
		if impl.GoodSteps(p) {
			t.Errorf("%s: not good, but told: %#v", name, p)
		}
		if s, ok := impl.StepsText(p); s != "" || ok {
			t.Errorf("%s: StepsText(%#v) = %q, %v", name, p, s, ok)
		}
		for _, l := range [][]string{nil, {"x\n"}, {"x\n", "x\n"}, {"x\n", "x\n", "x\n", "x"}, manyLines(impl.MaxLines)} {
			checkNoHunks(t, name, l, p)
		}
		checkNotRead(t, name, textOfSteps(p))
	}
}

// isGoodStep says it of one step whose lines are lines.
func isGoodStep(s impl.Step) bool {
	isSide := func(first, last, lines int) bool {
		for at := 0; at <= mostNumber; at++ {
			want := stepOf(at, manyLines(lines), 0, nil)
			if want.From == first && want.To == last {
				return last <= mostNumber
			}
		}
		return lines == 0 && first == mostNumber && last == mostNumber
	}
	return len(s.Old)+len(s.New) > 0 && isSide(s.From, s.To, len(s.Old)) && isSide(s.At, s.End, len(s.New))
}

func TestGoodStepsOfSomeNumbers(t *testing.T) {
	numbers := []int{-1, 0, 1, 2, 3, 999, 1000, 1001}
	lists := [][]string{nil, {"x\n"}, {"x\n", "y"}}
	for _, first := range numbers {
		for _, last := range numbers {
			for _, l := range lists {
				for _, other := range lists {
					for _, s := range []impl.Step{
						{From: first, To: last, Old: l, At: 1, End: max(len(other), 1), New: other},
						{From: 1, To: max(len(other), 1), Old: other, At: first, End: last, New: l},
					} {
						if got, want := impl.GoodSteps(steps{s}), isGoodStep(s); got != want {
							t.Errorf("GoodSteps(%#v) = %v", s, got)
						}
					}
				}
			}
		}
	}
}

func TestBadLinesGetNoSteps(t *testing.T) {
	x := []string{"x\n"}
	for name, l := range badLists() {
		for _, p := range []steps{nil, {stepOf(0, nil, 0, x)}, {stepOf(0, x, 0, nil)}, {stepOf(5, x, 9, x)}, {stepOf(999, nil, 0, x)}} {
			checkNoHunks(t, name, l, p)
		}
		for _, h := range []hunks{nil, {{New: x}}, {{Gone: 1}}, {{Gone: len(l)}}, {{Gone: len(l), New: x}}} {
			checkNoNormal(t, name, l, h)
		}
	}
	for name, h := range badHunks() {
		checkNoNormal(t, name, fourLines(), h)
	}
	checkNoNormal(t, "one without an end comes first", fourLines(), hunks{{New: []string{"x"}}})
	checkNoNormal(t, "one comes behind one without an end", []string{"a"}, hunks{{At: 1, New: x}})
	checkNoNormal(t, "too many lines", manyLines(impl.MaxLines), hunks{{At: 1, New: x}})
}

func TestReadNormalOfAnyBytes(t *testing.T) {
	for first := range 256 {
		one := string([]byte{byte(first)})
		checkNotRead(t, "one byte", one)
		checkNotRead(t, "one byte and an end", one+"\n")
		checkReadOrNot(t, "1d0\n< "+one+"\n")
		checkReadOrNot(t, "1d0\n< "+one+"\n\\ none\n")
		checkReadOrNot(t, "1"+one+"0\n< a\n")
		checkReadOrNot(t, "1"+one+"1\n< a\n---\n> x\n")
		checkReadOrNot(t, "0"+one+"1\n> x\n")
		for second := range 256 {
			checkNotRead(t, "two bytes", one+string([]byte{byte(second)}))
		}
	}
	for _, part := range []string{"\n", "1", "1d0\n", "< a\n", "1,", "0a1\n> x\n", "\\ none\n", "\x00", "1,40d0\n< a\n", "a", "---\n"} {
		checkNotRead(t, "much of it", strings.Repeat(part, 100000/len(part)))
		checkNotRead(t, "most of it", strings.Repeat(part, impl.MaxPatch/len(part)))
	}
	checkNotRead(t, "much behind", "1d0\n< a\n"+strings.Repeat(" ", 100000))
}

// stepsWithin puts steps, and the lines of each, into larger arrays; the second answer is all of the steps' array.
func stepsWithin(p steps) (steps, steps) {
	stranger := impl.Step{From: -3, To: -3, Old: []string{"stranger\n"}, At: -3, End: -3}
	room := slices.Concat(steps{stranger}, p, steps{stranger, stranger})
	for i := range room {
		room[i].Old, _ = within(room[i].Old)
		room[i].New, _ = within(room[i].New)
	}
	return room[1 : 1+len(p)], room
}

// copyOfSteps is a copy with all of each list up to its capacity.
func copyOfSteps(p steps) steps {
	all := slices.Clone(p)
	for i, s := range p {
		all[i].Old = slices.Clone(s.Old[:cap(s.Old)])
		all[i].New = slices.Clone(s.New[:cap(s.New)])
	}
	return all
}

// listsIn are the lists of steps, in the same memory, as those of hunks.
func listsIn(p steps) hunks {
	h := make(hunks, 0, 2*len(p))
	for _, s := range p {
		h = append(h, impl.Hunk{New: s.Old}, impl.Hunk{New: s.New})
	}
	return h
}

// spoilSteps writes into all memory that an answer hands out.
func spoilSteps(p steps) {
	spoil(listsIn(p))
	for i := range p[:cap(p)] {
		p[:cap(p)][i] = impl.Step{From: -9, End: -9}
	}
}

// checkStepsApart expects that no two lists of an answer share memory, and that nothing lies behind them.
func checkStepsApart(t *testing.T, name string, p steps) {
	t.Helper()
	for _, s := range p[len(p):cap(p)] {
		if !alikeSteps(steps{s}, make(steps, 1)) {
			t.Errorf("%s hands out %#v", name, s)
		}
	}
	checkApart(t, name, listsIn(p))
}

// callSteps calls each function of the layer and writes into what it answers.
func callSteps(l []string, h hunks, p steps) {
	impl.GoodSteps(p)
	text, _ := impl.StepsText(p)
	read, _, _ := impl.ReadNormal(text)
	spoilSteps(read)
	impl.NormalText(l, h)
	made, _ := impl.NormalSteps(l, h)
	spoilSteps(made)
	told, _, _ := impl.StepsHunks(l, p)
	spoil(told)
	lines, _, _ := impl.ApplySteps(l, p)
	spoilLines(lines)
}

func TestNoStepsAreChanged(t *testing.T) {
	x := []string{"x\n"}
	lists := []hunks{nil, {{Gone: 4}}, {{Gone: 4, New: fourLines()}}, {{New: x}, {At: 2, Gone: 2, New: []string{"x\n", "d"}}}, {{At: 4, New: x}}, {{At: 9, New: x}}, {{New: []string{""}}}}
	for _, text := range [][]string{nil, fourLines(), {"a\n", "b\n", "c\n", "d"}, {"a", "b\n"}} {
		var all []steps
		for _, h := range lists {
			if len(text) == 4 && impl.GoodHunks(4, h) {
				all = append(all, stepsOf(text, h))
			}
		}
		for _, p := range badSteps() {
			all = append(all, p)
		}
		all = append(all, steps{stepOf(1, []string{"b\n"}, 9, x)}, steps{stepOf(5, x, 5, x)}, steps{stepOf(0, nil, 0, []string{"x"})})
		for _, g := range lists {
			for _, q := range all {
				l, roomL := within(text)
				h, roomH := hunksWithin(g)
				p, roomP := stepsWithin(q)
				beforeL, beforeH, beforeP := slices.Clone(roomL), deepCopy(roomH), copyOfSteps(roomP)
				callSteps(l, h, p)
				if !slices.Equal(roomL, beforeL) || !unchanged(roomH, beforeH) || !alikeSteps(copyOfSteps(roomP), beforeP) {
					t.Fatalf("changed: %q, %#v, %#v", text, g, q)
				}
			}
		}
	}
}

// sharingCases are hunks whose lines are in one array, as are the lines that they are for.
func sharingCases() []hunks {
	x := []string{"x\n", "y\n"}
	return []hunks{
		{{Gone: 1}, {At: 2, Gone: 1}, {At: 4, New: x}},
		{{New: x}, {At: 1, New: x}, {At: 2, New: x}, {At: 3, New: x[1:]}},
		{{Gone: 1, New: x}, {At: 2, Gone: 2, New: x}},
		{{Gone: 4, New: fourLines()}},
	}
}

func TestListsOfStepsShareNoMemory(t *testing.T) {
	for _, h := range sharingCases() {
		l, room := within(fourLines())
		p, ok := impl.NormalSteps(l, h)
		if !ok || len(p) != len(h) {
			t.Fatalf("NormalSteps(%#v) = %#v, %v", h, p, ok)
		}
		text, _ := impl.StepsText(p)
		read, _, _ := impl.ReadNormal(text)
		told, _, _ := impl.StepsHunks(l, p)
		if len(read) != len(h) || len(told) != len(h) {
			t.Fatalf("%#v, %#v", read, told)
		}
		checkStepsApart(t, "NormalSteps", p)
		checkStepsApart(t, "ReadNormal", read)
		checkApart(t, "StepsHunks", told)
		if !slices.Equal(room, slices.Concat([]string{"ahead\n"}, fourLines(), []string{"behind\n", "behind\n"})) {
			t.Errorf("lines are shared: %q", room)
		}
	}
	made, _, _ := impl.ApplySteps(fourLines(), stepsOf(fourLines(), hunks{{Gone: 1}}))
	for _, line := range made[len(made):cap(made)] {
		if line != "" {
			t.Errorf("ApplySteps hands out %q", line)
		}
	}
}

func TestWhatIsBehindStepsIsNotRead(t *testing.T) {
	l := fourLines()
	for _, h := range append(sharingCases(), nil) {
		alone := stepsOf(l, h)
		inRoom, _ := stepsWithin(alone)
		hunksInRoom, _ := hunksWithin(h)
		inLarger, _ := within(l)
		checkReadBack(t, "in a larger array", inRoom, textOfSteps(alone))
		checkNormal(t, "in a larger array", inLarger, hunksInRoom, inRoom, textOfSteps(alone))
	}
}

func TestNoStepsAreKept(t *testing.T) {
	l := fourLines()
	for _, h := range sharingCases() {
		want := stepsOf(l, h)
		text := textOfSteps(want)
		for range 2 {
			checkNormal(t, "again", l, h, want, text)
			checkNotRead(t, "a fault between", text+"x")
			p, _ := impl.NormalSteps(l, h)
			spoilSteps(p)
			read, _, _ := impl.ReadNormal(text)
			spoilSteps(read)
			told, _, _ := impl.StepsHunks(l, want)
			spoil(told)
		}
	}
}
