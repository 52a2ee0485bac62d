package tests

import (
	"fmt"
	"slices"
	"strings"
	"testing"

	"loop.example/g00825/impl"
)

// manner is a way by the models of its chapter: which texts are its, what they make of lines, and how hunks are written.
type manner struct {
	way   int
	isIts func(text string) bool
	do    func(text string, l []string) ([]string, int)
	write func(l []string, h hunks, width int) string
}

func manners() []manner {
	return []manner{
		{
			impl.WyNormal,
			func(text string) bool { _, _, ok := impl.ReadNormal(text); return ok },
			func(text string, l []string) ([]string, int) {
				p, _, _ := impl.ReadNormal(text)
				return stepsDone(l, p)
			},
			func(l []string, h hunks, _ int) string { return textOfSteps(stepsOf(l, h)) },
		},
		{
			impl.WyUnified,
			func(text string) bool { _, ok := readBySplit(text); return ok },
			func(text string, l []string) ([]string, int) { g, _ := readBySplit(text); return applyBy(l, g) },
			func(l []string, h hunks, width int) string { return textOfGroups(groupsBy(l, h, width)) },
		},
		{
			impl.WyContext,
			func(text string) bool { _, ok := readSides(text); return ok },
			func(text string, l []string) ([]string, int) { g, _ := readSides(text); return applyBy(l, g) },
			func(l []string, h hunks, width int) string { return textOfSides(groupsBy(l, h, width)) },
		},
		{
			impl.WyEd,
			func(text string) bool { _, ok := ordersIn(text); return ok },
			func(text string, l []string) ([]string, int) { o, _ := ordersIn(text); return runBy(l, o) },
			func(_ []string, h hunks, _ int) string { return textOfOrders(edBy(h)) },
		},
	}
}

// made are the lines that a text makes of good lines, or its code.
func (m manner) made(text string, l []string) ([]string, int) {
	if !m.isIts(text) {
		return nil, impl.PtBad
	}
	return m.do(text, l)
}

// written is the text of hunks that can be done, or PtNever.
func (m manner) written(l []string, h hunks, width int) (string, int) {
	made := plainOf(change(markedOf(l), h))
	if m.way == impl.WyEd && !(isWholeText(l) && isWholeText(made)) {
		return "", impl.PtNever
	}
	return m.write(l, h, width), 0
}

// diffWritten is the text of what is different of two texts.
func (m manner) diffWritten(a, b []string, width int) (string, int) {
	h, ok := impl.DiffHunks(a, b)
	if !ok {
		return "", impl.PtNever
	}
	return m.written(a, h, width)
}

func (m manner) turned(to manner, text string, l []string, width int) (string, int) {
	made, code := m.made(text, l)
	if code != 0 {
		return "", code
	}
	return to.diffWritten(l, made, width)
}

func (m manner) back(text string, l []string, width int) (string, int) {
	made, code := m.made(text, l)
	if code != 0 {
		return "", code
	}
	return m.diffWritten(made, l, width)
}

// checkWays expects a text to be one of these ways, and of no other.
func checkWays(t *testing.T, name, text string, want ...int) {
	t.Helper()
	ways, ok := impl.WaysOf(text)
	if !slices.Equal(ways, want) || !ok {
		t.Errorf("%s: WaysOf(%.150q) = %v, %v, not %v", name, text, ways, ok, want)
	}
	for _, m := range manners() {
		its := slices.Contains(want, m.way)
		if is, ok := impl.IsPatch(m.way, text); is != its || !ok {
			t.Errorf("%s: IsPatch(%d, %.150q) = %v, %v", name, m.way, text, is, ok)
		}
		if m.isIts(text) != its {
			t.Errorf("%s: the model of %d tells another", name, m.way)
		}
	}
}

// checkMade expects the lines that a text makes of good lines, or the code, and likewise the hunks.
func checkMade(t *testing.T, name string, m manner, text string, l, want []string, code int) {
	t.Helper()
	if made, got, ok := impl.Apply(m.way, text, l); !slices.Equal(made, want) || got != code || !ok {
		t.Errorf("%s: Apply(%d, %.150q, %q) = %q, %d, %v, not %q, %d", name, m.way, text, l, made, got, ok, want, code)
	}
	if made, got := m.made(text, l); !slices.Equal(made, want) || got != code {
		t.Errorf("%s: the model of %d makes of %q by %.150q %q, %d, not %q, %d", name, m.way, l, text, made, got, want, code)
	}
	var diff hunks
	if code == 0 {
		told, ok := impl.DiffHunks(l, want)
		if diff = told; !ok {
			code = impl.PtNever
		}
	}
	if h, got, ok := impl.HunksOf(m.way, text, l); !alike(h, diff) || got != code || !ok {
		t.Errorf("%s: HunksOf(%d, %.150q, %q) = %#v, %d, %v, not %#v, %d", name, m.way, text, l, h, got, ok, diff, code)
	}
}

// checkCoded expects a code of a text for good lines, whatever is asked for.
func checkCoded(t *testing.T, name string, m manner, text string, l []string, code int) {
	t.Helper()
	checkMade(t, name, m, text, l, nil, code)
	for _, width := range []int{0, 3} {
		for _, to := range manners() {
			checkTurned(t, name, m, to, text, l, width, "", code)
		}
		checkTurnedBack(t, name, m, text, l, width, "", code)
	}
}

// checkWayText expects what hunks are written as, or the code.
func checkWayText(t *testing.T, name string, m manner, l []string, h hunks, width int, want string, code int) {
	t.Helper()
	if s, got, ok := impl.WriteWay(m.way, l, h, width); s != want || got != code || !ok {
		t.Errorf("%s: WriteWay(%d, %q, %#v, %d) = %q, %d, %v, not %q, %d", name, m.way, l, h, width, s, got, ok, want, code)
	}
	if s, got := m.written(l, h, width); s != want || got != code {
		t.Errorf("%s: the model of %d writes %#v as %q, %d, not %q, %d", name, m.way, h, s, got, want, code)
	}
	if code == 0 {
		checkMade(t, name, m, want, l, plainOf(change(markedOf(l), h)), 0)
	}
}

// checkTurned expects what a text is in another way, or the code; and of what is told that it does the same.
func checkTurned(t *testing.T, name string, from, to manner, text string, l []string, width int, want string, code int) {
	t.Helper()
	s, got, ok := impl.Translate(from.way, to.way, text, l, width)
	if s != want || got != code || !ok {
		t.Errorf("%s: Translate(%d, %d, %.150q, %q, %d) = %q, %d, %v, not %q, %d", name, from.way, to.way, text, l, width, s, got, ok, want, code)
	}
	if got != 0 {
		return
	}
	first, _, _ := impl.Apply(from.way, text, l)
	second, code, ok := impl.Apply(to.way, s, l)
	if !slices.Equal(first, second) || code != 0 || !ok {
		t.Errorf("%s: by %d %q makes %q of %q, and by %d %q makes %q, %d, %v", name, from.way, text, first, l, to.way, s, second, code, ok)
	}
}

// checkTurnedBack expects what leads back, or the code; and of what is told that it does.
func checkTurnedBack(t *testing.T, name string, m manner, text string, l []string, width int, want string, code int) {
	t.Helper()
	s, got, ok := impl.BackPatch(m.way, text, l, width)
	if s != want || got != code || !ok {
		t.Errorf("%s: BackPatch(%d, %.150q, %q, %d) = %q, %d, %v, not %q, %d", name, m.way, text, l, width, s, got, ok, want, code)
	}
	if got != 0 {
		return
	}
	made, _, _ := impl.Apply(m.way, text, l)
	if back, code, ok := impl.Apply(m.way, s, made); !slices.Equal(back, l) || code != 0 || !ok {
		t.Errorf("%s: by %d %q makes %q of %q, not %q, %d, %v", name, m.way, s, back, made, l, code, ok)
	}
}

// checkAsModel expects of any text and good lines what the models tell, and answers with the code for the lines.
func checkAsModel(t *testing.T, name string, m manner, text string, l []string, width int) int {
	t.Helper()
	made, code := m.made(text, l)
	checkMade(t, name, m, text, l, made, code)
	for _, to := range manners() {
		want, code := m.turned(to, text, l, width)
		checkTurned(t, name, m, to, text, l, width, want, code)
	}
	want, codeBack := m.back(text, l, width)
	checkTurnedBack(t, name, m, text, l, width, want, codeBack)
	return code
}

// waysCase is one change of lines, and what leads back, in each way; a text is empty where the way can not tell it.
type waysCase struct {
	name  string
	l     []string
	h     hunks
	width int
	texts [4]string
	backs [4]string
}

func noWaysCases() []waysCase {
	never := [4]string{3: "never"}
	return []waysCase{
		{"nothing is changed", linesBy("abc"), nil, 3, [4]string{}, [4]string{}},
		{"nothing at all", nil, nil, 0, [4]string{}, [4]string{}},
		{"nothing is changed, no end", linesBy("ab.c"), nil, 1, never, never},
	}
}

func oneHunkCases() []waysCase {
	abcde := linesBy("abcde")
	return []waysCase{
		{"one goes", abcde, hunks{{At: 1, Gone: 1}}, 0,
			[4]string{"2d1\n< b\n", "@@ -2 +1,0 @@\n-b\n", stars + "*** 2 ****\n- b\n--- 1 ----\n", "2d\n"},
			[4]string{"1a2\n> b\n", "@@ -1,0 +2 @@\n+b\n", stars + "*** 1 ****\n--- 2 ----\n+ b\n", "1a\nb\n.\n"}},
		{"one goes, one line around", abcde, hunks{{At: 1, Gone: 1}}, 1,
			[4]string{"2d1\n< b\n", "@@ -1,3 +1,2 @@\n a\n-b\n c\n", stars + "*** 1,3 ****\n  a\n- b\n  c\n--- 1,2 ----\n", "2d\n"},
			[4]string{"1a2\n> b\n", "@@ -1,2 +1,3 @@\n a\n+b\n c\n", stars + "*** 1,2 ****\n--- 1,3 ----\n  a\n+ b\n  c\n", "1a\nb\n.\n"}},
		{"two come behind all", abcde[:2], hunks{{At: 2, New: linesBy("xy")}}, impl.MaxWidth,
			[4]string{"2a3,4\n> x\n> y\n", "@@ -1,2 +1,4 @@\n a\n b\n+x\n+y\n", stars + "*** 1,2 ****\n--- 1,4 ----\n  a\n  b\n+ x\n+ y\n", "2a\nx\ny\n.\n"},
			[4]string{"3,4d2\n< x\n< y\n", "@@ -1,4 +1,2 @@\n a\n b\n-x\n-y\n", stars + "*** 1,4 ****\n  a\n  b\n- x\n- y\n--- 1,2 ----\n", "3,4d\n"}},
		{"one for two", abcde, hunks{{At: 2, Gone: 2, New: linesBy("x")}}, 2,
			[4]string{"3,4c3\n< c\n< d\n---\n> x\n", "@@ -1,5 +1,4 @@\n a\n b\n-c\n-d\n+x\n e\n",
				stars + "*** 1,5 ****\n  a\n  b\n! c\n! d\n  e\n--- 1,4 ----\n  a\n  b\n! x\n  e\n", "3,4c\nx\n.\n"},
			[4]string{"3c3,4\n< x\n---\n> c\n> d\n", "@@ -1,4 +1,5 @@\n a\n b\n-x\n+c\n+d\n e\n",
				stars + "*** 1,4 ****\n  a\n  b\n! x\n  e\n--- 1,5 ----\n  a\n  b\n! c\n! d\n  e\n", "3c\nc\nd\n.\n"}},
		{"all go", abcde[:2], hunks{{Gone: 2}}, 3,
			[4]string{"1,2d0\n< a\n< b\n", "@@ -1,2 +0,0 @@\n-a\n-b\n", stars + "*** 1,2 ****\n- a\n- b\n--- 0 ----\n", "1,2d\n"},
			[4]string{"0a1,2\n> a\n> b\n", "@@ -0,0 +1,2 @@\n+a\n+b\n", stars + "*** 0 ****\n--- 1,2 ----\n+ a\n+ b\n", "0a\na\nb\n.\n"}},
		{"a dot alone for one", abcde[:2], hunks{{Gone: 1, New: []string{".\n"}}}, 0,
			[4]string{"1c1\n< a\n---\n> .\n", "@@ -1 +1 @@\n-a\n+.\n", stars + "*** 1 ****\n! a\n--- 1 ----\n! .\n", "1c\n..\n.\n1s/.//\n"},
			[4]string{"1c1\n< .\n---\n> a\n", "@@ -1 +1 @@\n-.\n+a\n", stars + "*** 1 ****\n! .\n--- 1 ----\n! a\n", "1c\na\n.\n"}},
	}
}

func manyHunksCases() []waysCase {
	three := hunks{{At: 1, Gone: 1}, {At: 3, Gone: 1, New: linesBy("x")}, {At: 5, New: linesBy("y")}}
	normal, ed := "2d1\n< b\n4c3\n< d\n---\n> x\n5a5\n> y\n", "5a\ny\n.\n4c\nx\n.\n2d\n"
	normalBack, edBack := "1a2\n> b\n3c4\n< x\n---\n> d\n5d5\n< y\n", "5d\n3c\nd\n.\n1a\nb\n.\n"
	return []waysCase{
		{"three hunks", linesBy("abcde"), three, 0,
			[4]string{normal, "@@ -2 +1,0 @@\n-b\n@@ -4 +3 @@\n-d\n+x\n@@ -5,0 +5 @@\n+y\n",
				stars + "*** 2 ****\n- b\n--- 1 ----\n" + stars + "*** 4 ****\n! d\n--- 3 ----\n! x\n" + stars + "*** 5 ****\n--- 5 ----\n+ y\n", ed},
			[4]string{normalBack, "@@ -1,0 +2 @@\n+b\n@@ -3 +4 @@\n-x\n+d\n@@ -5 +5,0 @@\n-y\n",
				stars + "*** 1 ****\n--- 2 ----\n+ b\n" + stars + "*** 3 ****\n! x\n--- 4 ----\n! d\n" + stars + "*** 5 ****\n- y\n--- 5 ----\n", edBack}},
		{"three hunks, one line around", linesBy("abcde"), three, 1,
			[4]string{normal, "@@ -1,5 +1,5 @@\n a\n-b\n c\n-d\n+x\n e\n+y\n",
				stars + "*** 1,5 ****\n  a\n- b\n  c\n! d\n  e\n--- 1,5 ----\n  a\n  c\n! x\n  e\n+ y\n", ed},
			[4]string{normalBack, "@@ -1,5 +1,5 @@\n a\n+b\n c\n-x\n+d\n e\n-y\n",
				stars + "*** 1,5 ****\n  a\n  c\n! x\n  e\n- y\n--- 1,5 ----\n  a\n+ b\n  c\n! d\n  e\n", edBack}},
		{"two groups", linesBy("abcdefgh"), hunks{{Gone: 1}, {At: 5, Gone: 1}}, 1,
			[4]string{"1d0\n< a\n6d4\n< f\n", "@@ -1,2 +1 @@\n-a\n b\n@@ -5,3 +4,2 @@\n e\n-f\n g\n",
				stars + "*** 1,2 ****\n- a\n  b\n--- 1 ----\n" + stars + "*** 5,7 ****\n  e\n- f\n  g\n--- 4,5 ----\n", "6d\n1d\n"},
			[4]string{"0a1\n> a\n4a6\n> f\n", "@@ -1 +1,2 @@\n+a\n b\n@@ -4,2 +5,3 @@\n e\n+f\n g\n",
				stars + "*** 1 ****\n--- 1,2 ----\n+ a\n  b\n" + stars + "*** 4,5 ****\n--- 5,7 ----\n  e\n+ f\n  g\n", "4a\nf\n.\n0a\na\n.\n"}},
	}
}

// openWaysCases have lines without an end, of which an editor is told nothing.
func openWaysCases() []waysCase {
	return []waysCase{
		{"no end of one that stays", linesBy("ab.c"), hunks{{Gone: 1}}, 2,
			[4]string{"1d0\n< a\n", "@@ -1,3 +1,2 @@\n-a\n b\n c\n\\ none\n", stars + "*** 1,3 ****\n- a\n  b\n  c\n\\ none\n--- 1,2 ----\n", "never"},
			[4]string{"0a1\n> a\n", "@@ -1,2 +1,3 @@\n+a\n b\n c\n\\ none\n", stars + "*** 1,2 ****\n--- 1,3 ----\n+ a\n  b\n  c\n\\ none\n", "never"}},
		{"no end of one that goes", linesBy("a.b"), hunks{{At: 1, Gone: 1}}, 0,
			[4]string{"2d1\n< b\n\\ none\n", "@@ -2 +1,0 @@\n-b\n\\ none\n", stars + "*** 2 ****\n- b\n\\ none\n--- 1 ----\n", "never"},
			[4]string{"1a2\n> b\n\\ none\n", "@@ -1,0 +2 @@\n+b\n\\ none\n", stars + "*** 1 ****\n--- 2 ----\n+ b\n\\ none\n", "never"}},
		{"no end of one that comes", linesBy("a"), hunks{{At: 1, New: linesBy(".b")}}, 0,
			[4]string{"1a2\n> b\n\\ none\n", "@@ -1,0 +2 @@\n+b\n\\ none\n", stars + "*** 1 ****\n--- 2 ----\n+ b\n\\ none\n", "never"},
			[4]string{"2d1\n< b\n\\ none\n", "@@ -2 +1,0 @@\n-b\n\\ none\n", stars + "*** 2 ****\n- b\n\\ none\n--- 1 ----\n", "never"}},
		{"an end goes", linesBy("ab"), hunks{{At: 1, Gone: 1, New: linesBy(".b")}}, 0,
			[4]string{"2c2\n< b\n---\n> b\n\\ none\n", "@@ -2 +2 @@\n-b\n+b\n\\ none\n", stars + "*** 2 ****\n! b\n--- 2 ----\n! b\n\\ none\n", "never"},
			[4]string{"2c2\n< b\n\\ none\n---\n> b\n", "@@ -2 +2 @@\n-b\n\\ none\n+b\n", stars + "*** 2 ****\n! b\n\\ none\n--- 2 ----\n! b\n", "never"}},
	}
}

func allWaysCases() []waysCase {
	return slices.Concat(noWaysCases(), oneHunkCases(), manyHunksCases(), openWaysCases())
}

// toldAs is a text and its code: `never` stands for none.
func toldAs(text string) (string, int) {
	if text == "never" {
		return "", impl.PtNever
	}
	return text, 0
}

func TestOneChangeInEachWay(t *testing.T) {
	for _, c := range allWaysCases() {
		made, ok := impl.Patch(c.l, c.h)
		if !ok {
			t.Fatalf("%s: can not be done", c.name)
		}
		for i, m := range manners() {
			text, code := toldAs(c.texts[i])
			checkWayText(t, c.name, m, c.l, c.h, c.width, text, code)
			if code != 0 {
				continue
			}
			checkMade(t, c.name, m, text, c.l, made, 0)
			if h, _, _ := impl.HunksOf(m.way, text, c.l); !alike(h, c.h) {
				t.Errorf("%s: HunksOf(%d, %q, %q) = %#v, not %#v", c.name, m.way, text, c.l, h, c.h)
			}
			for j, to := range manners() {
				want, code := toldAs(c.texts[j])
				checkTurned(t, c.name, m, to, text, c.l, c.width, want, code)
			}
			want, code := toldAs(c.backs[i])
			checkTurnedBack(t, c.name, m, text, c.l, c.width, want, code)
		}
	}
}

func TestWaysOfEachText(t *testing.T) {
	checkWays(t, "the empty text", "", impl.WyNormal, impl.WyUnified, impl.WyContext, impl.WyEd)
	for _, c := range allWaysCases() {
		for i, m := range manners() {
			if text := c.texts[i]; text != "" && text != "never" {
				checkWays(t, c.name, text, m.way)
				checkWays(t, c.name+", no byte 10 at the end", strings.TrimSuffix(text, "\n"))
				checkWays(t, c.name+", a line ahead", "x\n"+text)
			}
		}
	}
	for _, c := range append(normalCases(), openCases()...) {
		if c.text != "" {
			checkWays(t, c.name, c.text, impl.WyNormal)
		}
	}
	for _, c := range append(headCases(), lineCases()...) {
		if c.text != "" {
			checkWays(t, c.name, c.text, impl.WyUnified)
		}
	}
	for _, c := range onesCases() {
		checkWays(t, c.name, c.text, impl.WyUnified)
	}
	for _, c := range sidesCases() {
		if c.text != "" {
			checkWays(t, c.name, c.text, impl.WyContext)
		}
	}
	for _, c := range orderCases() {
		if c.text != "" {
			checkWays(t, c.name, c.text, impl.WyEd)
		}
	}
	// Texts of two ways together, and such as are nearly one of some way, are none.
	for _, text := range []string{"2d1\n< b\n2d\n", "2d\n2d1\n< b\n", "2d\n@@ -2 +1,0 @@\n-b\n", "@@ -2 +1,0 @@\n-b\n" + stars + "*** 2 ****\n- b\n--- 1 ----\n",
		"\n", " ", "x\n", "a", "2d", "2d1\n", "2\n", "@@\n", stars, "*** 2 ****\n- b\n--- 1 ----\n", "--- a\n+++ b\n@@ -2 +1,0 @@\n-b\n", "02d\n", "2,2d\n", "2d01\n< b\n", "@@ -02 +1,0 @@\n-b\n",
		"@@ -1 +1 @@\n-a\n", "0d\n", "1a\n.\n", "2c2\n< b\n> x\n", "1001d\n", "\x00", "\xff\n"} {
		checkWays(t, "no way", text)
	}
}

// mostTexts are texts of so many bytes, by ways.
func mostTexts(t *testing.T, bytes int) map[int]string {
	t.Helper()
	last := full(1 + bytes - impl.MaxPatch)
	return map[int]string{
		impl.WyNormal:  textOfSteps(stepsOfSize(last)),
		impl.WyUnified: textOfGroups(sized(t, bytes, textOfGroups)),
		impl.WyContext: textOfSides(sized(t, bytes, textOfSides)),
		impl.WyEd:      textOfOrders(ordersOfBytes(t, bytes)),
	}
}

func TestTextsOfMostBytesByWay(t *testing.T) {
	for way, text := range mostTexts(t, impl.MaxPatch) {
		if len(text) != impl.MaxPatch {
			t.Fatalf("%d: %d bytes", way, len(text))
		}
		checkWays(t, "most bytes", text, way)
		checkWays(t, "most bytes of no way", text[:len(text)-1]+"x")
		checkAsModel(t, "most bytes", manners()[way-1], text, fourLines(), 0)
	}
	checkWays(t, "most bytes alone", strings.Repeat("\n", impl.MaxPatch))
	for way, text := range mostTexts(t, impl.MaxPatch+1) {
		if len(text) != impl.MaxPatch+1 {
			t.Fatalf("%d: %d bytes", way, len(text))
		}
		checkMoreThanMost(t, text)
	}
	for _, more := range []int{1, 2, 100000} {
		checkMoreThanMost(t, strings.Repeat("\n", impl.MaxPatch+more))
		checkMoreThanMost(t, "2d\n"+strings.Repeat("1d\n", impl.MaxPatch/3+more))
	}
}

// checkMoreThanMost expects a text of too many bytes to be a patch of no way, which WaysOf does not even say.
func checkMoreThanMost(t *testing.T, text string) {
	t.Helper()
	if ways, ok := impl.WaysOf(text); len(ways) != 0 || ok {
		t.Errorf("WaysOf of %d bytes = %v, %v", len(text), ways, ok)
	}
	for _, m := range manners() {
		if is, ok := impl.IsPatch(m.way, text); is || !ok {
			t.Errorf("IsPatch(%d) of %d bytes = %v, %v", m.way, len(text), is, ok)
		}
		checkCoded(t, "too many bytes", m, text, fourLines(), impl.PtBad)
		checkCoded(t, "too many bytes, no lines", m, text, nil, impl.PtBad)
	}
}

// codedCase is a text that does not fit the lines a to d, the last one of which may have no end.
type codedCase struct {
	name string
	way  int
	text string
	code int
}

func codedCases() []codedCase {
	wide := strings.Repeat("+l\n", 37)
	return []codedCase{
		{"another line goes", impl.WyNormal, "2d1\n< x\n", impl.PtOther},
		{"it comes to another place", impl.WyNormal, "2d2\n< b\n", impl.PtOther},
		{"one without an end goes", impl.WyNormal, "2d1\n< b\n\\ none\n", impl.PtOther},
		{"line 5 goes", impl.WyNormal, "5d4\n< e\n", impl.PtFar},
		{"behind line 5", impl.WyNormal, "5a6\n> x\n", impl.PtFar},
		{"side by side", impl.WyNormal, "1d0\n< a\n2d0\n< b\n", impl.PtFar},
		{"far ahead of another", impl.WyNormal, "1d0\n< x\n5d3\n< e\n", impl.PtFar},
		{"too many come", impl.WyNormal, "0a1,37\n" + strings.ReplaceAll(wide, "+", "> "), impl.PtOther},
		{"one without an end comes first", impl.WyNormal, "0a1\n> x\n\\ none\n", impl.PtOther},
		{"another line goes", impl.WyUnified, "@@ -2 +1,0 @@\n-x\n", impl.PtOther},
		{"another line stays", impl.WyUnified, "@@ -1,2 +1 @@\n x\n-b\n", impl.PtOther},
		{"it comes to another place", impl.WyUnified, "@@ -2 +2,0 @@\n-b\n", impl.PtOther},
		{"line 5 goes", impl.WyUnified, "@@ -5 +4,0 @@\n-e\n", impl.PtFar},
		{"far behind another", impl.WyUnified, "@@ -1 +0,0 @@\n-x\n@@ -5 +3,0 @@\n-e\n", impl.PtFar},
		{"side by side", impl.WyUnified, "@@ -1 +0,0 @@\n-a\n@@ -2 +0,0 @@\n-b\n", impl.PtOther},
		{"too many come", impl.WyUnified, "@@ -0,0 +1,37 @@\n" + wide, impl.PtOther},
		{"one without an end comes first", impl.WyUnified, "@@ -0,0 +1 @@\n+x\n\\ none\n", impl.PtOther},
		{"another line goes", impl.WyContext, stars + "*** 2 ****\n- x\n--- 1 ----\n", impl.PtOther},
		{"another line stays", impl.WyContext, stars + "*** 1,2 ****\n  x\n- b\n--- 1 ----\n", impl.PtOther},
		{"it comes to another place", impl.WyContext, stars + "*** 2 ****\n- b\n--- 2 ----\n", impl.PtOther},
		{"line 5 goes", impl.WyContext, stars + "*** 5 ****\n- e\n--- 4 ----\n", impl.PtFar},
		{"far behind another", impl.WyContext, stars + "*** 1 ****\n- x\n--- 0 ----\n" + stars + "*** 5 ****\n- e\n--- 3 ----\n", impl.PtFar},
		{"too many come", impl.WyContext, stars + "*** 0 ****\n--- 1,37 ----\n" + strings.ReplaceAll(wide, "+", "+ "), impl.PtOther},
		{"line 5 goes", impl.WyEd, "5d\n", impl.PtFar},
		{"behind line 5", impl.WyEd, "5a\nx\n.\n", impl.PtFar},
		{"far then", impl.WyEd, "1d\n4d\n", impl.PtFar},
		{"no dot", impl.WyEd, "1s/.//\n", impl.PtOther},
		{"no dot, and far then", impl.WyEd, "1s/.//\n9d\n", impl.PtOther},
		{"far, and no dot then", impl.WyEd, "9d\n1s/.//\n", impl.PtFar},
		{"too many come", impl.WyEd, "0a\n" + strings.ReplaceAll(wide, "+", "") + ".\n", impl.PtOther},
	}
}

func TestPatchesThatDoNotFit(t *testing.T) {
	for _, c := range codedCases() {
		for _, m := range manners() {
			code := impl.PtBad
			if m.way == c.way {
				code = c.code
				checkWays(t, c.name, c.text, c.way)
			}
			checkCoded(t, c.name, m, c.text, fourLines(), code)
			checkCoded(t, c.name+", the last without an end", m, c.text, linesBy("abc.d"), code)
		}
	}
	for _, m := range manners() {
		for _, text := range []string{"x", "\n", "2", "2d", "2d1", "@@", stars, "2d\n2d1\n< b\n", "\xff\x00"} {
			checkCoded(t, "of no way", m, text, fourLines(), impl.PtBad)
			checkCoded(t, "of no way, no lines", m, text, nil, impl.PtBad)
		}
	}
}

// formCase is a text that is turned into its own way, or whose change can be told in less.
type formCase struct {
	name     string
	from, to int
	text     string
	width    int
	want     string
}

func formCases() []formCase {
	const n, u, c, e = impl.WyNormal, impl.WyUnified, impl.WyContext, impl.WyEd
	one := "@@ -2 +1,0 @@\n-b\n"
	return []formCase{
		{"one that is told", u, u, "@@ -2,1 +1,0 @@\n-b\n", 0, one},
		{"both ones that are told", u, u, "@@ -2,1 +2,1 @@\n-b\n+x\n", 0, "@@ -2 +2 @@\n-b\n+x\n"},
		{"lines around that are none", u, u, one, 1, "@@ -1,3 +1,2 @@\n a\n-b\n c\n"},
		{"lines around that go", u, u, "@@ -1,4 +1,3 @@\n a\n-b\n c\n d\n", 0, one},
		{"other lines around", u, u, "@@ -2,3 +2,2 @@\n b\n-c\n d\n", impl.MaxWidth, "@@ -1,4 +1,3 @@\n a\n b\n-c\n d\n"},
		{"what goes and comes", u, u, "@@ -1,3 +1,3 @@\n-a\n-b\n-c\n+a\n+x\n+c\n", 0, "@@ -2 +2 @@\n-b\n+x\n"},
		{"two groups that are near", u, u, "@@ -1 +0,0 @@\n-a\n@@ -3 +1,0 @@\n-c\n", 1, "@@ -1,4 +1,2 @@\n-a\n b\n-c\n d\n"},
		{"one group of what is far", u, u, "@@ -1,4 +1,2 @@\n-a\n b\n c\n-d\n", 0, "@@ -1 +0,0 @@\n-a\n@@ -4 +2,0 @@\n-d\n"},
		{"a group side by side", c, c, stars + "*** 2 ****\n- b\n--- 1 ----\n", 1, stars + "*** 1,3 ****\n  a\n- b\n  c\n--- 1,2 ----\n"},
		{"lines side by side that go", c, c, stars + "*** 1,3 ****\n  a\n- b\n  c\n--- 1,2 ----\n", 0, stars + "*** 2 ****\n- b\n--- 1 ----\n"},
		{"a step", n, n, "2d1\n< b\n", 3, "2d1\n< b\n"},
		{"a step of what stays", n, n, "1,3c1,3\n< a\n< b\n< c\n---\n> a\n> x\n> c\n", 0, "2c2\n< b\n---\n> x\n"},
		{"a step of nothing", n, n, "1,2c1,2\n< a\n< b\n---\n> a\n> b\n", 0, ""},
		{"an order", e, e, "2d\n", 0, "2d\n"},
		{"orders that are one", e, e, "2d\n2d\n", 0, "2,3d\n"},
		{"orders from the first on", e, e, "1d\n3d\n", 0, "4d\n1d\n"},
		{"one ahead of a line", e, e, "2i\nx\n.\n", 0, "1a\nx\n.\n"},
		{"one that comes and goes", e, e, "0a\nx\n.\n1d\n", 0, ""},
		{"two dots that are one", e, e, "0a\n...\n.\n1s/.//\n1s/.//\n", 0, "0a\n..\n.\n1s/.//\n"},
		{"orders in turn", e, n, "1d\n2c\nx\ny\n.\n", 0, "1d0\n< a\n3c2,3\n< c\n---\n> x\n> y\n"},
		{"orders of nothing", e, u, "1c\na\n.\n", 5, ""},
		{"a step of what stays, all in one", n, u, "1,3c1,3\n< a\n< b\n< c\n---\n> a\n> x\n> c\n", 1, "@@ -1,3 +1,3 @@\n a\n-b\n+x\n c\n"},
		{"a group, to an editor", u, e, "@@ -1,4 +1,4 @@\n+.\n a\n-b\n c\n d\n", 9, "2d\n0a\n..\n.\n1s/.//\n"},
		{"a like line that goes further up", n, c, "3d2\n< c\n", 0, stars + "*** 3 ****\n- c\n--- 2 ----\n"},
	}
}

func TestTranslateComesInTheOneForm(t *testing.T) {
	for _, c := range formCases() {
		from, to := manners()[c.from-1], manners()[c.to-1]
		checkWays(t, c.name, c.text, c.from)
		checkTurned(t, c.name, from, to, c.text, fourLines(), c.width, c.want, 0)
		// What is told does the same, and stands for itself then.
		checkTurned(t, c.name+", again", to, to, c.want, fourLines(), c.width, c.want, 0)
		checkAsModel(t, c.name, from, c.text, fourLines(), c.width)
	}
	// Of like lines the ones that stay are those of the least pairs, whichever went.
	for _, m := range manners() {
		text, _ := m.written(linesBy("aaa"), hunks{{At: 1, Gone: 1}}, 0)
		want, _ := m.written(linesBy("aaa"), hunks{{At: 2, Gone: 1}}, 0)
		checkTurned(t, "a like line", m, m, text, linesBy("aaa"), 0, want, 0)
	}
}

// An editor's last line has an end first of all, which the other ways tell, too.
func TestTranslateOfOrdersForALineWithoutAnEnd(t *testing.T) {
	ed, open := manners()[impl.WyEd-1], linesBy("a.b")
	wants := map[int]string{impl.WyNormal: "2c2\n< b\n\\ none\n---\n> b\n", impl.WyUnified: "@@ -2 +2 @@\n-b\n\\ none\n+b\n",
		impl.WyContext: stars + "*** 2 ****\n! b\n\\ none\n--- 2 ----\n! b\n"}
	checkMade(t, "no orders", ed, "", open, linesBy("ab"), 0)
	for _, to := range manners()[:3] {
		checkTurned(t, "no orders", ed, to, "", open, 0, wants[to.way], 0)
		checkTurned(t, "one goes", ed, to, "2d\n", open, 0, mustWrite(t, to, open, hunks{{At: 1, Gone: 1}}), 0)
		checkTurned(t, "all go", ed, to, "1,2d\n", open, 0, mustWrite(t, to, open, hunks{{Gone: 2}}), 0)
	}
	for _, text := range []string{"", "2d\n", "1,2d\n", "1d\n", "2c\nb\n.\n", "2a\nx\n.\n"} {
		checkTurned(t, "to an editor", ed, ed, text, open, 0, "", impl.PtNever)
		checkTurnedBack(t, "an end that can not go again", ed, text, open, 0, "", impl.PtNever)
		checkAsModel(t, "no end", ed, text, open, 1)
	}
}

func mustWrite(t *testing.T, m manner, l []string, h hunks) string {
	t.Helper()
	text, code := m.written(l, h, 0)
	if code != 0 {
		t.Fatalf("%d: %#v can not be told", m.way, h)
	}
	return text
}

// What leads back is what is different the other way round, which may be more than the same lines turned.
func TestBackPatchIsADifferenceByItself(t *testing.T) {
	l := linesBy("ab")
	for _, m := range manners() {
		text := mustWrite(t, m, l, hunks{{New: linesBy("b")}, {At: 2, New: linesBy("c")}})
		checkAsModel(t, "two come", m, text, l, 1)
		// The line that stays is the first one of the first text: a, and on the way back b.
		text = mustWrite(t, m, l, hunks{{New: linesBy("b")}, {At: 1, Gone: 1}})
		want := mustWrite(t, m, linesBy("ba"), hunks{{New: linesBy("a")}, {At: 1, Gone: 1}})
		checkTurnedBack(t, "both are changed for one another", m, text, l, 0, want, 0)
	}
	normal := manners()[0]
	checkTurnedBack(t, "told", normal, "0a1\n> b\n2d2\n< b\n", l, 0, "0a1\n> a\n2d2\n< a\n", 0)
}

func TestMoreHunksThanCanBeTold(t *testing.T) {
	for all := 15; all <= 27; all++ {
		a, b, _ := gapped(26, 14, all)
		code := 0
		if all > impl.MaxHunks {
			code = impl.PtNever
		}
		for _, m := range manners() {
			name := fmt.Sprint(all, " hunks by ", m.way)
			text := mustWrite(t, m, a, hunks{{Gone: len(a), New: b}})
			checkMade(t, name, m, text, a, b, 0)
			if h, got, ok := impl.HunksOf(m.way, text, a); got != code || !ok || (len(h) == all) != (code == 0) {
				t.Errorf("%s: HunksOf tells %d, %d, %v", name, len(h), got, ok)
			}
			for width := range 3 {
				checkAsModel(t, name, m, text, a, width)
				if _, got := m.turned(m, text, a, width); got != code {
					t.Errorf("%s: the models tell %d", name, got)
				}
			}
			back := mustWrite(t, m, b, hunks{{Gone: len(b), New: a}})
			checkAsModel(t, name+", back", m, back, b, 1)
		}
	}
}

// What is different may be too much one way round, and not the other one.
func TestTooMuchOneWayRound(t *testing.T) {
	never := map[[2]bool]int{}
	for seed := range 3000 {
		a, b := mixed(40, 3, seed), mixed(40, 3, seed+5000)
		_, there := impl.DiffHunks(a, b)
		_, back := impl.DiffHunks(b, a)
		if never[[2]bool{there, back}]++; never[[2]bool{there, back}] > 20 {
			continue
		}
		for _, m := range manners() {
			checkAsModel(t, "mixed", m, mustWrite(t, m, a, hunks{{Gone: 40, New: b}}), a, seed%4)
		}
	}
	if len(never) != 4 {
		t.Errorf("not of all kinds: %v", never)
	}
}

func TestWriteWayOfAllSmallHunks(t *testing.T) {
	for _, l := range smallTexts() {
		for _, h := range hunksFor(len(l), smallNews()) {
			if !impl.GoodLines(plainOf(change(markedOf(l), h))) {
				checkNoWayText(t, "small", l, h, 1)
				continue
			}
			for _, m := range manners() {
				for width := range 3 {
					want, code := m.written(l, h, width)
					checkWayText(t, "small", m, l, h, width, want, code)
				}
			}
		}
	}
}

func TestWriteWayAtEachWidth(t *testing.T) {
	l := numbered("a", impl.MaxLines)
	for _, h := range []hunks{nil, {{At: 20, Gone: 1}}, {{Gone: 1}, {At: 40, New: linesBy("y")}}, everySecond(impl.MaxHunks, 1, linesBy("x")),
		{{At: 3, Gone: 2, New: linesBy("x")}, {At: 10, Gone: 1}, {At: 30, Gone: 4, New: linesBy("xyz")}}} {
		for width := range impl.MaxWidth + 1 {
			for _, m := range manners() {
				want, code := m.written(l, h, width)
				checkWayText(t, "a width", m, l, h, width, want, code)
				checkAsModel(t, "a width", m, want, l, width)
			}
		}
	}
	for _, m := range manners() {
		narrow, _, _ := impl.WriteWay(m.way, l, hunks{{At: 20, Gone: 1}}, 0)
		wide, _, _ := impl.WriteWay(m.way, l, hunks{{At: 20, Gone: 1}}, impl.MaxWidth)
		if around := m.way == impl.WyUnified || m.way == impl.WyContext; (narrow != wide) != around {
			t.Errorf("%d: %q and %q", m.way, narrow, wide)
		}
	}
}

// No hunks that can be done have more bytes than a text may have, in any way: all of these are told.
func TestWriteWayOfMost(t *testing.T) {
	wide := slices.Repeat([]string{full(impl.MaxLine)}, impl.MaxLines)
	other := slices.Repeat([]string{strings.Repeat("g", impl.MaxLine-1) + "\n"}, impl.MaxLines)
	open := slices.Concat(other[1:], []string{strings.Repeat("h", impl.MaxLine)})
	openWide := slices.Concat(wide[1:], []string{strings.Repeat("i", impl.MaxLine)})
	dots := slices.Repeat([]string{".\n"}, impl.MaxLines)
	all := []hunks{{{Gone: impl.MaxLines, New: other}}, {{Gone: impl.MaxLines}}, {{Gone: impl.MaxLines, New: dots}}, {{Gone: impl.MaxLines, New: open}},
		everySecond(impl.MaxHunks, 1, other[:1]), everySecond(impl.MaxHunks, 1, dots[:1]), everySecond(impl.MaxHunks, 1, nil),
		{{Gone: 20, New: other[:1]}, {At: 21, Gone: 19, New: other[:38]}}, {{Gone: 39, New: other[:39]}}, {{At: 39, Gone: 1, New: other[:1]}}}
	most := 0
	for _, l := range [][]string{wide, openWide} {
		for _, h := range all {
			for _, width := range []int{0, 1, 2, impl.MaxWidth} {
				for _, m := range manners() {
					want, code := m.written(l, h, width)
					most = max(most, len(want))
					checkWayText(t, "most", m, l, h, width, want, code)
					checkAsModel(t, "most", m, want, l, width)
				}
			}
		}
	}
	if most < 2600 || most > impl.MaxPatch {
		t.Errorf("%d bytes", most)
	}
	for _, m := range manners() {
		checkWayText(t, "most come to none", m, nil, hunks{{New: wide}}, 0, mustWrite(t, m, nil, hunks{{New: wide}}), 0)
	}
}

// Each small change, told in each way, is told in each other one, and for other lines it has a code.
func TestAllSmallChanges(t *testing.T) {
	texts := append(smallTexts()[:5], linesBy("xy"), []string{".\n", "x\n"})
	news := [][]string{nil, {"x\n"}, {".\n"}, {"y\n", "x"}}
	codes := map[int]int{}
	for _, l := range texts {
		for _, h := range hunksFor(len(l), news) {
			if !impl.GoodLines(plainOf(change(markedOf(l), h))) {
				continue
			}
			for _, m := range manners() {
				text, code := m.written(l, h, len(h)%2)
				if code != 0 {
					continue
				}
				for i, others := range texts {
					codes[checkAsModel(t, "small", m, text, others, i%3)]++
				}
			}
		}
	}
	if len(codes) != 3 || min(codes[0], codes[impl.PtOther], codes[impl.PtFar]) < 500 {
		t.Errorf("codes: %v", codes)
	}
}

func TestTextsThatAreNearlyOfAWay(t *testing.T) {
	bytes := []string{"", "0", "1", "2", ",", "a", "d", "-", "+", "*", "!", ".", " ", "\n"}
	seen := map[int]int{}
	for _, c := range []waysCase{oneHunkCases()[0], oneHunkCases()[5], manyHunksCases()[0]} {
		for _, text := range c.texts {
			tryNearly(text, bytes, func(s string) {
				var ways []int
				for _, m := range manners() {
					if m.isIts(s) {
						ways = append(ways, m.way)
						seen[checkAsModel(t, "nearly", m, s, c.l, 1)]++
					} else {
						checkMade(t, "nearly", m, s, c.l, nil, impl.PtBad)
					}
				}
				checkWays(t, "nearly", s, ways...)
			})
		}
	}
	if len(seen) != 3 || min(seen[0], seen[impl.PtFar], seen[impl.PtOther]) < 20 {
		t.Errorf("codes: %v", seen)
	}
}

func TestLongChangesInEachWay(t *testing.T) {
	done := 0
	for seed := range 120 {
		a, b := dotted(seed%41, seed), dotted(40-seed*7%41, seed+1000)
		if n := len(b); seed%3 == 0 && n > 0 {
			b[n-1] = strings.TrimSuffix(b[n-1], "\n")
		}
		h, ok := impl.DiffHunks(a, b)
		if !ok {
			h = hunks{{Gone: len(a), New: b}}
		}
		for _, m := range manners() {
			text, code := m.written(a, h, seed%5)
			checkWayText(t, "long", m, a, h, seed%5, text, code)
			if code == 0 {
				done++
				checkAsModel(t, "long", m, text, a, seed%4)
				checkMade(t, "long", m, text, a, b, 0)
			}
		}
	}
	if done < 350 {
		t.Errorf("only %d", done)
	}
}
