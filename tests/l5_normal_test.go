package tests

import (
	"fmt"
	"slices"
	"strings"
	"testing"

	"loop.example/g00825/impl"
)

type steps = []impl.Step

// mostNumber is the greatest number of a line in a step.
const mostNumber = 1000

// stepOf is a step with these lines at these places of both texts.
func stepOf(from int, old []string, at int, lines []string) impl.Step {
	s := impl.Step{From: from, To: from + len(old), Old: old, At: at, End: at + len(lines), New: lines}
	if len(old) > 0 {
		s.From++
	}
	if len(lines) > 0 {
		s.At++
	}
	return s
}

// stepsOf are the steps of hunks, place by place.
func stepsOf(l []string, h hunks) steps {
	var p steps
	more := 0
	for _, k := range h {
		p = append(p, stepOf(k.At, l[k.At:k.At+k.Gone], k.At+more, k.New))
		more += len(k.New) - k.Gone
	}
	return p
}

func alikeSteps(a, b steps) bool {
	return slices.EqualFunc(a, b, func(j, k impl.Step) bool {
		return j.From == k.From && j.To == k.To && slices.Equal(j.Old, k.Old) &&
			j.At == k.At && j.End == k.End && slices.Equal(j.New, k.New)
	})
}

func numbersOf(first, last int) string {
	if first == last {
		return fmt.Sprint(first)
	}
	return fmt.Sprintf("%d,%d", first, last)
}

func shownAs(sign string, l []string) string {
	text := ""
	for _, line := range l {
		text += sign + line
		if !strings.HasSuffix(line, "\n") {
			text += "\n\\ none\n"
		}
	}
	return text
}

// textOfSteps is what is written of steps, good or not.
func textOfSteps(p steps) string {
	var text strings.Builder
	for _, s := range p {
		letter, between := "c", "---\n"
		if len(s.Old) == 0 {
			letter, between = "a", ""
		}
		if len(s.New) == 0 {
			letter, between = "d", ""
		}
		text.WriteString(numbersOf(s.From, s.To) + letter + numbersOf(s.At, s.End) + "\n")
		text.WriteString(shownAs("< ", s.Old) + between + shownAs("> ", s.New))
	}
	return text.String()
}

// checkReadBack expects steps to be good, to be written as that text, and to be read from it.
func checkReadBack(t *testing.T, name string, p steps, text string) {
	t.Helper()
	if !impl.GoodSteps(p) {
		t.Errorf("%s: not good: %#v", name, p)
	}
	if s, ok := impl.StepsText(p); s != text || !ok {
		t.Errorf("%s: StepsText(%#v) = %q, %v, not %q", name, p, s, ok, text)
	}
	if got, code, ok := impl.ReadNormal(text); !alikeSteps(got, p) || code != 0 || !ok {
		t.Errorf("%s: ReadNormal(%q) = %#v, %d, %v, not %#v", name, text, got, code, ok, p)
	}
}

// checkNotRead expects a text to be none of any good steps.
func checkNotRead(t *testing.T, name, text string) {
	t.Helper()
	if p, code, ok := impl.ReadNormal(text); len(p) != 0 || code != impl.PtBad || ok {
		t.Errorf("%s: ReadNormal(%.80q) = %#v, %d, %v", name, text, p, code, ok)
	}
}

// checkReadOrNot expects any text to be told only where it is that of the good steps told.
func checkReadOrNot(t *testing.T, text string) bool {
	t.Helper()
	p, code, ok := impl.ReadNormal(text)
	if !ok {
		checkNotRead(t, "any", text)
		return false
	}
	if code != 0 || !impl.GoodSteps(p) || textOfSteps(p) != text {
		t.Errorf("ReadNormal(%q) = %#v, %d", text, p, code)
	}
	return true
}

// checkNormal expects hunks that can be done to be written as these steps, and these to do what they do.
func checkNormal(t *testing.T, name string, l []string, h hunks, p steps, text string) {
	t.Helper()
	if s, ok := impl.NormalText(l, h); s != text || !ok {
		t.Errorf("%s: NormalText(%#v, %#v) = %q, %v, not %q", name, l, h, s, ok, text)
	}
	if got, ok := impl.NormalSteps(l, h); !alikeSteps(got, p) || !ok {
		t.Errorf("%s: NormalSteps(%#v, %#v) = %#v, %v, not %#v", name, l, h, got, ok, p)
	}
	checkReadBack(t, name, p, text)
	checkCode(t, name, l, p, h, 0)
	want := plainOf(change(markedOf(l), h))
	checkApply(t, name, l, p, want, 0)
}

// checkCode expects what StepsHunks tells.
func checkCode(t *testing.T, name string, l []string, p steps, want hunks, code int) {
	t.Helper()
	if h, got, ok := impl.StepsHunks(l, p); !alike(h, want) || got != code || !ok {
		t.Errorf("%s: StepsHunks(%#v, %#v) = %#v, %d, %v, not %#v, %d", name, l, p, h, got, ok, want, code)
	}
}

// checkApply expects what ApplySteps tells.
func checkApply(t *testing.T, name string, l []string, p steps, want []string, code int) {
	t.Helper()
	if made, got, ok := impl.ApplySteps(l, p); !slices.Equal(made, want) || got != code || !ok {
		t.Errorf("%s: ApplySteps(%#v, %#v) = %#v, %d, %v, not %#v, %d", name, l, p, made, got, ok, want, code)
	}
}

// normalCase is what hunks for lines are written as.
type normalCase struct {
	name string
	l    []string
	h    hunks
	text string
	want steps
}

func normalCases() []normalCase {
	abc := []string{"a\n", "b\n", "c\n"}
	x, xy := []string{"x\n"}, []string{"x\n", "y\n"}
	return []normalCase{
		{"no hunks", abc, nil, "", nil},
		{"nothing at all", nil, nil, "", nil},
		{"the first line goes", abc, hunks{{Gone: 1}}, "1d0\n< a\n", steps{{From: 1, To: 1, Old: abc[:1]}}},
		{"the first two go", abc, hunks{{Gone: 2}}, "1,2d0\n< a\n< b\n", steps{{From: 1, To: 2, Old: abc[:2]}}},
		{"one within goes", abc, hunks{{At: 1, Gone: 1}}, "2d1\n< b\n", steps{{From: 2, To: 2, Old: abc[1:2], At: 1, End: 1}}},
		{"the last line goes", abc, hunks{{At: 2, Gone: 1}}, "3d2\n< c\n", steps{{From: 3, To: 3, Old: abc[2:], At: 2, End: 2}}},
		{"all lines go", abc, hunks{{Gone: 3}}, "1,3d0\n< a\n< b\n< c\n", steps{{From: 1, To: 3, Old: abc}}},
		{"one comes to none", nil, hunks{{New: x}}, "0a1\n> x\n", steps{{At: 1, End: 1, New: x}}},
		{"two come to none", nil, hunks{{New: xy}}, "0a1,2\n> x\n> y\n", steps{{At: 1, End: 2, New: xy}}},
		{"one comes ahead of the first", abc, hunks{{New: x}}, "0a1\n> x\n", steps{{At: 1, End: 1, New: x}}},
		{"two come within", abc, hunks{{At: 1, New: xy}}, "1a2,3\n> x\n> y\n", steps{{From: 1, To: 1, At: 2, End: 3, New: xy}}},
		{"one comes behind the last", abc, hunks{{At: 3, New: x}}, "3a4\n> x\n", steps{{From: 3, To: 3, At: 4, End: 4, New: x}}},
		{"the first line is changed", abc, hunks{{Gone: 1, New: x}}, "1c1\n< a\n---\n> x\n", steps{{From: 1, To: 1, Old: abc[:1], At: 1, End: 1, New: x}}},
		{"one for two", abc, hunks{{At: 1, Gone: 2, New: x}}, "2,3c2\n< b\n< c\n---\n> x\n", steps{{From: 2, To: 3, Old: abc[1:], At: 2, End: 2, New: x}}},
		{"two for one", abc, hunks{{At: 1, Gone: 1, New: xy}}, "2c2,3\n< b\n---\n> x\n> y\n", steps{{From: 2, To: 2, Old: abc[1:2], At: 2, End: 3, New: xy}}},
		{"all lines are others", abc, hunks{{Gone: 3, New: xy}}, "1,3c1,2\n< a\n< b\n< c\n---\n> x\n> y\n", steps{{From: 1, To: 3, Old: abc, At: 1, End: 2, New: xy}}},
		{"all lines are the same", abc, hunks{{Gone: 3, New: abc}}, "1,3c1,3\n< a\n< b\n< c\n---\n> a\n> b\n> c\n", steps{{From: 1, To: 3, Old: abc, At: 1, End: 3, New: abc}}},
		{"less, then more", abc, hunks{{Gone: 1}, {At: 2, New: xy}}, "1d0\n< a\n2a2,3\n> x\n> y\n",
			steps{{From: 1, To: 1, Old: abc[:1]}, {From: 2, To: 2, At: 2, End: 3, New: xy}}},
		{"more, then less, then others", []string{"a\n", "b\n", "c\n", "d\n", "e\n"}, hunks{{New: xy}, {At: 1, Gone: 1}, {At: 3, Gone: 2, New: x}},
			"0a1,2\n> x\n> y\n2d3\n< b\n4,5c5\n< d\n< e\n---\n> x\n",
			steps{{At: 1, End: 2, New: xy}, {From: 2, To: 2, Old: []string{"b\n"}, At: 3, End: 3}, {From: 4, To: 5, Old: []string{"d\n", "e\n"}, At: 5, End: 5, New: x}}},
	}
}

// openCases have a line without an end, or lines that are like what is written around them.
func openCases() []normalCase {
	open, whole := []string{"a\n", "b"}, []string{"a\n", "b\n"}
	like := []string{"< x\n", "---\n", "\\ none\n", "> \n", "\n", "1d0\n", "\xff\x00\n", "\\ none"}
	return []normalCase{
		{"one without an end goes", open, hunks{{At: 1, Gone: 1}}, "2d1\n< b\n\\ none\n", steps{{From: 2, To: 2, Old: open[1:], At: 1, End: 1}}},
		{"it goes with one more", open, hunks{{Gone: 2}}, "1,2d0\n< a\n< b\n\\ none\n", steps{{From: 1, To: 2, Old: open}}},
		{"one without an end comes", whole[:1], hunks{{At: 1, New: open[1:]}}, "1a2\n> b\n\\ none\n", steps{{From: 1, To: 1, At: 2, End: 2, New: open[1:]}}},
		{"it comes to none", nil, hunks{{New: open}}, "0a1,2\n> a\n> b\n\\ none\n", steps{{At: 1, End: 2, New: open}}},
		{"one goes and one comes", open, hunks{{At: 1, Gone: 1, New: []string{"c"}}}, "2c2\n< b\n\\ none\n---\n> c\n\\ none\n",
			steps{{From: 2, To: 2, Old: open[1:], At: 2, End: 2, New: []string{"c"}}}},
		{"an end comes", open, hunks{{At: 1, Gone: 1, New: whole[1:]}}, "2c2\n< b\n\\ none\n---\n> b\n",
			steps{{From: 2, To: 2, Old: open[1:], At: 2, End: 2, New: whole[1:]}}},
		{"an end goes", whole, hunks{{At: 1, Gone: 1, New: open[1:]}}, "2c2\n< b\n---\n> b\n\\ none\n",
			steps{{From: 2, To: 2, Old: whole[1:], At: 2, End: 2, New: open[1:]}}},
		{"it stays", open, hunks{{Gone: 1}}, "1d0\n< a\n", steps{{From: 1, To: 1, Old: open[:1]}}},
		{"lines like what is around them", nil, hunks{{New: like}},
			"0a1,8\n> < x\n> ---\n> \\ none\n> > \n> \n> 1d0\n> \xff\x00\n> \\ none\n\\ none\n", steps{{At: 1, End: 8, New: like}}},
		{"such lines go", like, hunks{{Gone: 8}},
			"1,8d0\n< < x\n< ---\n< \\ none\n< > \n< \n< 1d0\n< \xff\x00\n< \\ none\n\\ none\n", steps{{From: 1, To: 8, Old: like}}},
	}
}

func TestNormalText(t *testing.T) {
	for _, c := range append(normalCases(), openCases()...) {
		checkNormal(t, c.name, c.l, c.h, c.want, c.text)
		if got := stepsOf(c.l, c.h); !alikeSteps(got, c.want) {
			t.Errorf("%s: the model tells %#v", c.name, got)
		}
		if got := textOfSteps(c.want); got != c.text {
			t.Errorf("%s: the model tells %q", c.name, got)
		}
	}
}

func TestNormalTextOfAllSmallHunks(t *testing.T) {
	for _, l := range smallTexts() {
		for _, h := range hunksFor(len(l), smallNews()) {
			if !impl.GoodLines(plainOf(change(markedOf(l), h))) {
				checkNoNormal(t, "small", l, h)
				continue
			}
			p := stepsOf(l, h)
			checkNormal(t, "small", l, h, p, textOfSteps(p))
		}
	}
}

func TestNormalTextOfMost(t *testing.T) {
	wide := slices.Repeat([]string{full(impl.MaxLine)}, impl.MaxLines)
	other := slices.Repeat([]string{strings.Repeat("g", impl.MaxLine-1) + "\n"}, impl.MaxLines)
	last := slices.Concat(wide[1:], []string{strings.Repeat("h", impl.MaxLine)})
	cases := map[string]hunks{
		"all lines are others":      {{Gone: impl.MaxLines, New: other}},
		"all lines go":              {{Gone: impl.MaxLines}},
		"most hunks":                everySecond(impl.MaxHunks, 1, other[:1]),
		"most hunks, all that goes": everySecond(impl.MaxHunks, 1, nil),
		"the last has no end":       {{Gone: impl.MaxLines, New: last}},
	}
	for name, h := range cases {
		for _, l := range [][]string{wide, last} {
			p := stepsOf(l, h)
			checkNormal(t, name, l, h, p, textOfSteps(p))
		}
	}
	p := stepsOf(nil, hunks{{New: last}})
	checkNormal(t, "most lines come", nil, hunks{{New: last}}, p, textOfSteps(p))
	h := everySecond(impl.MaxHunks, 0, other[:1])
	p = stepsOf(wide[:20], h[:11])
	checkNormal(t, "one comes at every second place", wide[:20], h[:11], p, textOfSteps(p))
}

// sidesUpTo lists the good numbers, up to most, that a side with each of these lists of lines has.
func sidesUpTo(most int, lists [][]string) steps {
	var all steps
	for _, l := range lists {
		for at := 0; at+len(l) <= most; at++ {
			all = append(all, stepOf(at, l, 0, nil))
		}
	}
	return all
}

// allSteps lists all good steps by themselves with these lines and numbers up to most.
func allSteps(most int, olds, news [][]string) steps {
	var all steps
	for _, o := range sidesUpTo(most, olds) {
		for _, n := range sidesUpTo(most, news) {
			if len(o.Old)+len(n.Old) > 0 {
				all = append(all, impl.Step{From: o.From, To: o.To, Old: o.Old, At: n.From, End: n.To, New: n.Old})
			}
		}
	}
	return all
}

func TestAllSmallStepsAreReadBack(t *testing.T) {
	olds := [][]string{nil, {"x\n"}, {"x"}, {"x\n", "y"}, {"\n", "x\n", "y\n"}}
	news := [][]string{nil, {"x\n"}, {"---\n", "x"}, {"y\n", "x\n"}}
	all := allSteps(4, olds, news)
	for _, s := range all {
		checkReadBack(t, "one", steps{s}, textOfSteps(steps{s}))
	}
	// Steps need not be in order, nor fit one another, to be good.
	few := allSteps(2, olds, news)
	for _, s := range few {
		for _, next := range few {
			checkReadBack(t, "two", steps{s, next}, textOfSteps(steps{s, next}))
		}
	}
}

func TestStepsAtTheLimitsAreReadBack(t *testing.T) {
	x, most := []string{"x\n"}, manyLines(impl.MaxLines)
	cases := map[string]steps{
		"behind line 1000":             {{From: mostNumber, To: mostNumber, At: 1, End: 1, New: x}},
		"line 1000 goes":               {{From: mostNumber, To: mostNumber, Old: x}},
		"it goes to behind line 1000":  {{From: mostNumber, To: mostNumber, Old: x, At: mostNumber, End: mostNumber}},
		"line 1000 comes":              {{At: mostNumber, End: mostNumber, New: x}},
		"behind line 1000, line 1000":  {{From: mostNumber, To: mostNumber, At: mostNumber, End: mostNumber, New: x}},
		"both are line 1000":           {{From: mostNumber, To: mostNumber, Old: x, At: mostNumber, End: mostNumber, New: x}},
		"most lines, up to line 1000":  {{From: 961, To: mostNumber, Old: most, At: 961, End: mostNumber, New: most}},
		"most lines, the first ones":   {{From: 1, To: 40, Old: most, At: 1, End: 40, New: most}},
		"most bytes, with an end":      {{From: 9, To: 10, Old: []string{full(impl.MaxLine), full(impl.MaxLine)}}},
		"most bytes, without an end":   {{At: 9, End: 9, New: []string{strings.Repeat("f", impl.MaxLine)}}},
		"most steps":                   slices.Repeat(steps{{At: 1, End: 1, New: x}}, impl.MaxHunks),
		"not in order":                 {{From: 9, To: 9, Old: x, At: 9, End: 9}, {From: 1, To: 1, Old: x, At: 5, End: 5}},
		"each with one without an end": slices.Repeat(steps{{From: 3, To: 3, Old: []string{"x"}, At: 3, End: 3, New: []string{"y"}}}, impl.MaxHunks),
	}
	for name, p := range cases {
		checkReadBack(t, name, p, textOfSteps(p))
	}
	checkNotRead(t, "one step more", strings.Repeat("0a1\n> x\n", impl.MaxHunks+1))
	checkReadBack(t, "no steps", nil, "")
	checkReadBack(t, "a list of no steps", steps{}, "")
}

// stepsOfSize are good steps whose text has MaxPatch bytes, and as many more as the last line has more than its end.
func stepsOfSize(last string) steps {
	wide := slices.Repeat([]string{full(impl.MaxLine)}, impl.MaxLines)
	all := stepOf(0, wide, 0, nil)
	return steps{all, all, stepOf(0, slices.Concat(wide[:13], []string{last}), 0, nil)}
}

func TestTextOfMostBytes(t *testing.T) {
	exact := stepsOfSize("\n")
	text := textOfSteps(exact)
	if len(text) != impl.MaxPatch {
		t.Fatalf("%d bytes", len(text))
	}
	checkReadBack(t, "most bytes", exact, text)
	for _, last := range []string{"x\n", "x", full(impl.MaxLine), strings.Repeat("f", impl.MaxLine)} {
		p := stepsOfSize(last)
		if !impl.GoodSteps(p) {
			t.Fatalf("not good with %q", last)
		}
		if s, ok := impl.StepsText(p); s != "" || ok {
			t.Errorf("StepsText with %q: %d bytes, %v", last, len(s), ok)
		}
		checkNotRead(t, "more bytes", textOfSteps(p))
	}
	// One line that comes, or one more line that goes, is more than most, too.
	checkNotRead(t, "one step more", text+"0a1\n> \n")
	much := slices.Repeat(steps{exact[0]}, impl.MaxHunks)
	if s, ok := impl.StepsText(much); s != "" || ok || !impl.GoodSteps(much) {
		t.Errorf("StepsText of much: %d bytes, %v", len(s), ok)
	}
	checkNotRead(t, "much more bytes", textOfSteps(much))
}

func TestTextsThatAreNotRead(t *testing.T) {
	good := "2,3c2\n< b\n< c\n---\n> x\n"
	if !checkReadOrNot(t, good) {
		t.Fatal("the text itself is not read")
	}
	cases := map[string][]string{
		"a 0 ahead":              {"01d0\n< a\n", "1d00\n< a\n", "00a1\n> x\n", "0a01\n> x\n", "1,02d0\n< a\n< b\n", "01,2d0\n< a\n< b\n"},
		"two numbers for one":    {"1,1d0\n< a\n", "1d0,0\n< a\n", "0,0a1\n> x\n", "0a1,1\n> x\n", "1,1c1,1\n< a\n---\n> x\n", "1d0,1\n< a\n", "0,1a1\n> x\n"},
		"numbers that fall":      {"2,1d0\n< a\n", "2,1d0\n", "2,1d0\n< a\n< b\n", "0a2,1\n> x\n", "0a2,1\n", "3,1c1\n< a\n---\n> x\n", "1,0d0\n< a\n"},
		"numbers beyond":         {"1001d0\n< a\n", "1d1001\n< a\n", "1001a1\n> x\n", "0a1001\n> x\n", "1000,1001d0\n< a\n< b\n", "9999d0\n< a\n", "10000d0\n< a\n"},
		"number 0 of lines":      {"0d0\n< a\n", "0a0\n> x\n", "0c1\n< a\n---\n> x\n", "1c0\n< a\n---\n> x\n", "0,1d0\n< a\n< b\n", "0a0,1\n> x\n> y\n"},
		"a number missing":       {"d0\n< a\n", "1d\n< a\n", "a1\n> x\n", "0a\n> x\n", "c\n< a\n---\n> x\n", "1,d0\n< a\n", ",1d0\n< a\n", "1d,0\n< a\n", "a\n", "\n"},
		"other heads":            {"1d0 \n< a\n", " 1d0\n< a\n", "1 d0\n< a\n", "1d0\r\n< a\n", "+1d0\n< a\n", "-1d0\n< a\n", "1e0\n< a\n", "1D0\n< a\n", "1dd0\n< a\n", "1da0\n< a\n", "1d0d0\n< a\n", "1,2,3d0\n< a\n", "10\n< a\n", "< a\n"},
		"another letter":         {"1a0\n< a\n", "1c0\n< a\n", "0d1\n> x\n", "0c1\n> x\n", "1d1\n< a\n---\n> x\n", "1a1\n< a\n---\n> x\n"},
		"a line too few":         {"1d0\n", "0a1\n", "1,2d0\n< a\n", "0a1,2\n> x\n", "1c1\n< a\n---\n", "1c1\n---\n> x\n", "1c1\n---\n", "2,3c2\n< b\n---\n> x\n", "1,40d0\n< a\n"},
		"a line too many":        {"1d0\n< a\n< b\n", "0a1\n> x\n> y\n", "1c1\n< a\n< b\n---\n> x\n", "1c1\n< a\n---\n> x\n> y\n"},
		"a sign missing":         {"1d0\na\n", "0a1\nx\n", "1d0\n a\n", "1d0\n<a\n", "1d0\n<\n", "0a1\n>x\n", "0a1\n>\n", "1c1\n< a\n---\nx\n"},
		"a sign too many":        {"1d0\n<< a\n", "1d0\n < a\n", "0a1\n>> x\n"},
		"another sign":           {"1d0\n> a\n", "0a1\n< x\n", "1d0\n- a\n", "0a1\n+ x\n", "1c1\n> a\n---\n< x\n", "1c1\n< a\n---\n< x\n", "1c1\n> x\n---\n> x\n", "1d0\n<\ta\n"},
		"--- missing":            {"1c1\n< a\n> x\n", "2,3c2\n< b\n< c\n> x\n", "1c1\n< a\n\n> x\n", "1c1\n< a\n--\n> x\n", "1c1\n< a\n----\n> x\n", "1c1\n< a\n--- \n> x\n", "1c1\n< a\n---> x\n", "1c1\n---\n< a\n> x\n"},
		"--- asked for nowhere":  {"1d0\n< a\n---\n", "1d0\n---\n< a\n", "0a1\n---\n> x\n", "0a1\n> x\n---\n", "---\n", "1c1\n< a\n---\n---\n> x\n", "1c1\n< a\n---\n> x\n---\n"},
		"none ahead of the last": {"1,2d0\n< a\n\\ none\n< b\n", "0a1,2\n> x\n\\ none\n> y\n", "1,2d0\n< a\n\\ none\n< b\n\\ none\n", "1,2c1\n< a\n\\ none\n< b\n---\n> x\n"},
		"none of no line":        {"1d0\n\\ none\n", "1d0\n\\ none\n< a\n", "1c1\n< a\n---\n\\ none\n> x\n", "1c1\n< a\n---\n> x\n\\ none\n\\ none\n", "1d0\n< \n\\ none\n", "0a1\n> \n\\ none\n"},
		"none behind an end":     {"1d0\n< a\n\n\\ none\n", "0a1\n> x\n\n\\ none\n"},
		"other words for none":   {"1d0\n< a\n\\ None\n", "1d0\n< a\n\\none\n", "1d0\n< a\n\\  none\n", "1d0\n< a\n\\ none \n", "1d0\n< a\n/ none\n", "1d0\n< a\n none\n", "1d0\n< a\n\\\n", "1d0\n< a\\ none\n\\\n"},
		"no byte 10 at the end":  {"1d0\n< a", "1d0", "0a1\n> x", "0a1\n> x\n\\ none", "1c1\n< a\n---\n> x", "1c1\n< a\n---", "1d0\n<", "1d0\n< ", "1", "1d", "x"},
		"a text behind":          {good + "\n", good + "x\n", good + "x", good + " ", good + "> y\n", good + "---\n", good + "1\n", good + "1d0\n", good + "\x00"},
		"a text ahead":           {"\n" + good, "x\n" + good, " " + good, "diff\n" + good, "\xef\xbb\xbf" + good},
		"too many lines":         {"1,41d0\n" + strings.Repeat("< l\n", 41), "0a1,41\n" + strings.Repeat("> l\n", 41)},
		"too long a line":        {"1d0\n< " + full(impl.MaxLine+1), "0a1\n> " + strings.Repeat("f", impl.MaxLine+1) + "\n\\ none\n"},
		"other ends":             {"1d0\r\n< a\r\n", "1d0\r< a\r", "1d0\x00< a\x00"},
	}
	for name, texts := range cases {
		for _, s := range texts {
			checkNotRead(t, name, s)
			checkNotRead(t, name+", behind another step", good+s)
		}
	}
	// Behind a step it is about that one's last line, which has no end then.
	checkNotRead(t, "none of nothing", "\\ none\n")
	checkReadBack(t, "none behind a step", steps{stepOf(1, []string{"b\n", "c\n"}, 1, []string{"x"})}, good+"\\ none\n")
}

// Steps with these lines alone make all that can be read of the parts below.
func TestAllShortTexts(t *testing.T) {
	lists := func(line string) [][]string {
		return [][]string{nil, {line + "\n"}, {line}, {line + "\n", line + "\n"}, {line + "\n", line}}
	}
	told := map[string]bool{"": true}
	few := allSteps(2, lists("x"), lists("y"))
	for _, s := range few {
		told[textOfSteps(steps{s})] = true
		for _, next := range few {
			told[textOfSteps(steps{s, next})] = true
		}
	}
	read := 0
	parts := []string{"1d0\n", "1,2d1\n", "0a1\n", "1a1,2\n", "1c1\n", "1,1d0\n", "< x\n", "> y\n", "---\n", "\\ none\n"}
	for _, w := range wordsUpTo(parts, 5) {
		text := strings.Join(w, "")
		if ok := checkReadOrNot(t, text); ok != told[text] {
			t.Errorf("ReadNormal(%q) tells %v", text, ok)
		} else if ok {
			read++
		}
	}
	if read < 20 {
		t.Errorf("only %d texts are read", read)
	}
}

// tryNearly tries all texts that are a byte, or a line, apart from one, and its parts.
func tryNearly(s string, bytes []string, try func(string)) {
	for i := range len(s) + 1 {
		for _, b := range bytes {
			try(s[:i] + b + s[i:])
			if i < len(s) {
				try(s[:i] + b + s[i+1:])
			}
		}
		try(s[:i])
		try(s[i:])
	}
	lines := strings.SplitAfter(s, "\n")
	for i := range lines {
		try(strings.Join(slices.Delete(slices.Clone(lines), i, i+1), ""))
		for j := range lines {
			try(strings.Join(slices.Insert(slices.Clone(lines), j, lines[i]), ""))
		}
	}
}

// Each text that is nearly one of steps is read only where it is another one.
func TestTextsThatAreNearlyRead(t *testing.T) {
	bytes := []string{"", "0", "1", "2", ",", "a", "c", "d", "<", ">", "-", "\\", " ", "\n", "x", "\x00"}
	for _, c := range append(normalCases(), openCases()...) {
		tryNearly(c.text, bytes, func(s string) { checkReadOrNot(t, s) })
	}
}

// codeOf is what StepsHunks tells of good steps, found line by line.
func codeOf(l []string, p steps) (hunks, int) {
	var h hunks
	far, other := false, false
	end, more := -1, 0
	for _, s := range p {
		from, at := s.From, s.At
		if len(s.Old) > 0 {
			from--
		}
		if len(s.New) > 0 {
			at--
		}
		far = far || s.To > len(l) || from <= end
		for i, line := range s.Old {
			other = other || from+i >= len(l) || l[from+i] != line
		}
		other = other || at != from+more
		end, more = from+len(s.Old), more+len(s.New)-len(s.Old)
		h = append(h, impl.Hunk{At: from, Gone: len(s.Old), New: s.New})
	}
	switch {
	case far:
		return nil, impl.PtFar
	case other:
		return nil, impl.PtOther
	}
	return h, 0
}

// stepsDone is what ApplySteps tells of good steps.
func stepsDone(l []string, p steps) ([]string, int) {
	h, code := codeOf(l, p)
	if code != 0 {
		return nil, code
	}
	made := plainOf(change(markedOf(l), h))
	if !impl.GoodLines(made) {
		return nil, impl.PtOther
	}
	return made, 0
}

// checkSteps expects what both functions tell of good lines and good steps.
func checkSteps(t *testing.T, name string, l []string, p steps, want int) {
	t.Helper()
	h, code := codeOf(l, p)
	if code != want {
		t.Errorf("%s: the model tells %d, not %d", name, code, want)
	}
	checkCode(t, name, l, p, h, want)
	made, code := stepsDone(l, p)
	checkApply(t, name, l, p, made, code)
}

func TestStepsHunksTellsCodes(t *testing.T) {
	l, x := fourLines(), []string{"x\n"}
	drop := func(at, to int) impl.Step { return stepOf(at, l[at:at+1], to, nil) }
	cases := []struct {
		name string
		p    steps
		code int
	}{
		{"no steps", nil, 0},
		{"all lines go", steps{stepOf(0, l, 0, nil)}, 0},
		{"behind the last", steps{stepOf(4, nil, 4, x)}, 0},
		{"all fit", steps{drop(0, 0), stepOf(2, l[2:3], 1, x), stepOf(4, nil, 3, x)}, 0},
		{"behind line 5", steps{stepOf(5, nil, 5, x)}, impl.PtFar},
		{"line 5 goes", steps{stepOf(4, x, 4, nil)}, impl.PtFar},
		{"lines up to 5 go", steps{stepOf(3, []string{"d\n", "e\n"}, 3, nil)}, impl.PtFar},
		{"line 1000 goes", steps{stepOf(999, x, 999, nil)}, impl.PtFar},
		{"behind line 1000", steps{stepOf(1000, nil, 5, x)}, impl.PtFar},
		{"side by side", steps{drop(0, 0), drop(1, 0)}, impl.PtFar},
		{"side by side, one comes", steps{drop(0, 0), stepOf(1, nil, 0, x)}, impl.PtFar},
		{"one comes, and the next goes", steps{stepOf(1, nil, 1, x), drop(1, 2)}, impl.PtFar},
		{"twice at one place", steps{stepOf(1, nil, 1, x), stepOf(1, nil, 2, x)}, impl.PtFar},
		{"twice the same line", steps{drop(1, 1), drop(1, 1)}, impl.PtFar},
		{"not in order", steps{drop(2, 2), drop(0, 0)}, impl.PtFar},
		{"another line", steps{stepOf(1, []string{"x\n"}, 1, nil)}, impl.PtOther},
		{"another line of two", steps{stepOf(1, []string{"b\n", "x\n"}, 1, x)}, impl.PtOther},
		{"one without an end", steps{stepOf(3, []string{"d"}, 3, nil)}, impl.PtOther},
		{"a line of another place", steps{stepOf(2, []string{"b\n"}, 2, nil)}, impl.PtOther},
		{"it comes one further", steps{stepOf(1, nil, 2, x)}, impl.PtOther},
		{"it comes one ahead", steps{stepOf(1, nil, 0, x)}, impl.PtOther},
		{"it goes to one further", steps{drop(1, 2)}, impl.PtOther},
		{"it goes to one ahead", steps{drop(1, 0)}, impl.PtOther},
		{"it comes to line 1000", steps{stepOf(1, nil, 999, x)}, impl.PtOther},
		{"it goes to behind line 1000", steps{drop(1, 1000)}, impl.PtOther},
		{"others come one further", steps{stepOf(1, l[1:2], 2, x)}, impl.PtOther},
		{"what went ahead is not counted", steps{drop(0, 0), drop(2, 2)}, impl.PtOther},
		{"what came ahead is not counted", steps{stepOf(0, nil, 0, x), drop(2, 2)}, impl.PtOther},
		{"its own lines are counted", steps{stepOf(1, nil, 2, x), drop(2, 3)}, impl.PtOther},
		{"the last one alone is another", steps{drop(0, 0), stepOf(2, x, 1, x)}, impl.PtOther},
		{"far, behind another", steps{stepOf(1, x, 1, nil), stepOf(5, nil, 4, x)}, impl.PtFar},
		{"far, ahead of another", steps{stepOf(5, nil, 5, x), stepOf(1, x, 1, nil)}, impl.PtFar},
		{"side by side, behind another", steps{stepOf(0, x, 0, nil), drop(2, 1), drop(3, 1)}, impl.PtFar},
		{"far, and at no place", steps{stepOf(1, nil, 9, x), stepOf(4, x, 9, nil)}, impl.PtFar},
		{"far and another in one", steps{stepOf(3, []string{"x\n", "y\n"}, 9, nil)}, impl.PtFar},
	}
	for _, c := range cases {
		checkSteps(t, c.name, l, c.p, c.code)
	}
	checkSteps(t, "no steps for no lines", nil, nil, 0)
	checkSteps(t, "one goes of no lines", nil, steps{stepOf(0, x, 0, nil)}, impl.PtFar)
	checkSteps(t, "one comes behind line 1 of none", nil, steps{stepOf(1, nil, 0, x)}, impl.PtFar)
	checkSteps(t, "an end is no part of it", []string{"a\n", "b"}, steps{stepOf(1, []string{"b\n"}, 1, nil)}, impl.PtOther)
}

func TestStepsThatCanNotBeDone(t *testing.T) {
	l, open, x := fourLines(), []string{"a\n", "b"}, []string{"x\n"}
	cases := []struct {
		name string
		l    []string
		p    steps
	}{
		{"one without an end comes first", l, steps{stepOf(0, nil, 0, []string{"x"})}},
		{"one without an end comes within", l, steps{stepOf(1, l[1:2], 1, []string{"x\n", "y"})}},
		{"one comes behind one without an end", open, steps{stepOf(2, nil, 2, x)}},
		{"one without an end comes behind one", open, steps{stepOf(2, nil, 2, []string{"x"})}},
		{"one of two steps", l, steps{stepOf(0, nil, 0, []string{"x"}), stepOf(4, nil, 5, x)}},
		{"too many lines", manyLines(impl.MaxLines), steps{stepOf(3, nil, 3, x)}},
		{"too many lines of two", manyLines(39), steps{stepOf(0, nil, 0, x), stepOf(3, nil, 4, x)}},
		{"much too many lines", manyLines(impl.MaxLines), steps{stepOf(40, nil, 40, manyLines(impl.MaxLines))}},
	}
	for _, c := range cases {
		h, code := codeOf(c.l, c.p)
		checkCode(t, c.name, c.l, c.p, h, 0)
		checkApply(t, c.name, c.l, c.p, nil, impl.PtOther)
		if code != 0 || len(h) == 0 {
			t.Errorf("%s: the model tells %#v, %d", c.name, h, code)
		}
	}
	checkSteps(t, "as many lines as can be", manyLines(39), steps{stepOf(3, nil, 3, x)}, 0)
}

func TestCodesOfAllSmallSteps(t *testing.T) {
	olds := [][]string{nil, {"x\n"}, {"x"}, {"y\n"}, {"x\n", "x\n"}, {"y\n", "x"}}
	news := [][]string{nil, {"x\n"}, {"z"}, {"x\n", "y\n"}}
	all := allSteps(3, olds, news)
	seen := map[int]int{}
	for _, l := range smallTexts() {
		for _, s := range all {
			_, code := codeOf(l, steps{s})
			checkSteps(t, "one", l, steps{s}, code)
			for _, next := range all {
				p := steps{s, next}
				_, code := codeOf(l, p)
				checkSteps(t, "two", l, p, code)
				seen[code]++
			}
		}
	}
	if len(seen) != 3 || seen[0] < 10 {
		t.Errorf("codes of two steps: %v", seen)
	}
}

// What goes and comes by steps that are read is what the hunks say, for texts of many lines, too.
func TestReadStepsDoWhatTheirHunksDo(t *testing.T) {
	for seed := range 40 {
		a, b := mixed(seed, 3, seed), mixed(impl.MaxLines-seed, 3, seed+7)
		h, ok := impl.DiffHunks(a, b)
		if !ok {
			continue
		}
		text, ok := impl.NormalText(a, h)
		p, code, read := impl.ReadNormal(text)
		if !ok || !read || code != 0 {
			t.Fatalf("%q is not read: %d", text, code)
		}
		checkCode(t, "read", a, p, h, 0)
		checkApply(t, "read", a, p, b, 0)
	}
}
