package tests

import (
	"math"
	"slices"
	"strings"
	"testing"

	"loop.example/g00825/impl"
)

func badWays() []int {
	return []int{impl.WyNormal - 1, -1, impl.WyEd + 1, 100, math.MinInt, math.MaxInt, math.MinInt + 1, 1 << 32, 1<<32 + 1}
}

// checkNoMade expects no lines, no hunks and no code of a way, a text and lines.
func checkNoMade(t *testing.T, name string, way int, text string, l []string) {
	t.Helper()
	if made, code, ok := impl.Apply(way, text, l); len(made) != 0 || code != 0 || ok {
		t.Errorf("%s: Apply(%d, %.80q, %.80q) = %q, %d, %v", name, way, text, l, made, code, ok)
	}
	if h, code, ok := impl.HunksOf(way, text, l); len(h) != 0 || code != 0 || ok {
		t.Errorf("%s: HunksOf(%d, %.80q, %.80q) = %#v, %d, %v", name, way, text, l, h, code, ok)
	}
}

// checkNoTurned expects no text and no code.
func checkNoTurned(t *testing.T, name string, from, to int, text string, l []string, width int) {
	t.Helper()
	if s, code, ok := impl.Translate(from, to, text, l, width); s != "" || code != 0 || ok {
		t.Errorf("%s: Translate(%d, %d, %.80q, %.80q, %d) = %q, %d, %v", name, from, to, text, l, width, s, code, ok)
	}
}

func checkNoBack(t *testing.T, name string, way int, text string, l []string, width int) {
	t.Helper()
	if s, code, ok := impl.BackPatch(way, text, l, width); s != "" || code != 0 || ok {
		t.Errorf("%s: BackPatch(%d, %.80q, %.80q, %d) = %q, %d, %v", name, way, text, l, width, s, code, ok)
	}
}

// checkNoText expects no text and no code of hunks.
func checkNoText(t *testing.T, name string, way int, l []string, h hunks, width int) {
	t.Helper()
	if s, code, ok := impl.WriteWay(way, l, h, width); s != "" || code != 0 || ok {
		t.Errorf("%s: WriteWay(%d, %.80q, %.80v, %d) = %q, %d, %v", name, way, l, h, width, s, code, ok)
	}
}

// checkNoWayText expects so of each way.
func checkNoWayText(t *testing.T, name string, l []string, h hunks, width int) {
	t.Helper()
	for _, m := range manners() {
		checkNoText(t, name, m.way, l, h, width)
	}
}

// someTexts are patches of each way, that fit the lines a to d, or do not, and such of no way.
func someTexts() []string {
	texts := []string{"", "x", "\n", "2d", "2d1\n", "\x00\xff", strings.Repeat("\n", impl.MaxPatch+1), strings.Repeat("1d\n", 5000)}
	for _, c := range codedCases() {
		texts = append(texts, c.text)
	}
	for _, m := range manners() {
		texts = append(texts, m.write(fourLines(), hunks{{At: 1, Gone: 1}, {At: 3, New: linesBy("x")}}, 0))
	}
	return texts
}

func TestBadWaysGetTheZeroAnswer(t *testing.T) {
	for _, way := range badWays() {
		for _, text := range someTexts() {
			if is, ok := impl.IsPatch(way, text); is || ok {
				t.Errorf("IsPatch(%d, %.80q) = %v, %v", way, text, is, ok)
			}
			for _, l := range [][]string{nil, fourLines(), linesBy("abc.d"), {""}} {
				checkNoMade(t, "bad way", way, text, l)
				for _, width := range []int{-1, 0, 1, impl.MaxWidth, impl.MaxWidth + 1} {
					checkNoBack(t, "bad way", way, text, l, width)
					checkNoTurned(t, "both ways bad", way, way, text, l, width)
					for good := impl.WyNormal; good <= impl.WyEd; good++ {
						checkNoTurned(t, "bad way", way, good, text, l, width)
						checkNoTurned(t, "to a bad way", good, way, text, l, width)
					}
				}
			}
		}
		for _, h := range []hunks{nil, {{Gone: 1}}, {{At: 1, New: linesBy("x")}}, {{At: 9, Gone: 1}}} {
			checkNoText(t, "bad way", way, fourLines(), h, 0)
			checkNoText(t, "bad way, no lines", way, nil, h, 0)
			checkNoText(t, "bad way, bad width", way, fourLines(), h, -1)
		}
	}
}

func TestBadWidthsGetTheZeroAnswer(t *testing.T) {
	for _, width := range badWidths() {
		for way := impl.WyNormal; way <= impl.WyEd; way++ {
			for _, l := range [][]string{nil, fourLines(), linesBy("abc.d")} {
				for _, text := range someTexts() {
					checkNoBack(t, "bad width", way, text, l, width)
					for to := impl.WyNormal; to <= impl.WyEd; to++ {
						checkNoTurned(t, "bad width", way, to, text, l, width)
					}
				}
				for _, h := range []hunks{nil, {{Gone: 1}}, {{New: linesBy("x")}}, {{Gone: len(l), New: linesBy("x.y")}}} {
					checkNoText(t, "bad width", way, l, h, width)
				}
			}
		}
	}
}

func TestBadLinesGetTheZeroAnswerInEachWay(t *testing.T) {
	for name, l := range badLists() {
		for _, text := range someTexts() {
			for way := impl.WyNormal; way <= impl.WyEd; way++ {
				checkNoMade(t, name, way, text, l)
				checkNoBack(t, name, way, text, l, 1)
				checkNoTurned(t, name, way, way%4+1, text, l, 1)
				checkNoTurned(t, name, way, way, text, l, 0)
			}
		}
	}
}

func TestBadChangesGetNoTextInAnyWay(t *testing.T) {
	eachBadChange(func(name string, l []string, h hunks, width int) {
		checkNoWayText(t, name, l, h, width)
	})
}

// Beside a code all else is empty, and the last answer is true.
func TestCodesStandAlone(t *testing.T) {
	codes := map[int]bool{}
	for _, l := range [][]string{nil, fourLines(), linesBy("abc.d"), {".\n", "..\n"}} {
		for _, text := range someTexts() {
			for _, m := range manners() {
				codes[checkAsModel(t, "some", m, text, l, 2)] = true
			}
		}
	}
	if len(codes) != 4 {
		t.Errorf("codes: %v", codes)
	}
}

func TestAnyBytesInEachWay(t *testing.T) {
	for first := range 256 {
		one := string([]byte{byte(first)})
		for _, text := range []string{one, one + "\n", "1" + one + "\n", one + "d\n", "1a\n" + one + "\n.\n", "0a1\n> " + one + "\n", "@@ -0,0 +1 @@\n+" + one + "\n",
			"@@ -0,0 +1 @@\n" + one + "x\n", stars + "*** 0 ****\n--- 1 ----\n+ " + one + "\n", stars + "*** 0 ****\n--- 1 ----\n" + one + " x\n", strings.Repeat(one, impl.MaxPatch)} {
			var ways []int
			for _, m := range manners() {
				checkAsModel(t, "any bytes", m, text, linesBy("a"), 0)
				if m.isIts(text) {
					ways = append(ways, m.way)
				}
			}
			checkWays(t, "any bytes", text, ways...)
		}
		checkMoreThanMost(t, strings.Repeat(one, impl.MaxPatch+1))
	}
}

func TestMuchInEachWay(t *testing.T) {
	parts := []string{"1d\n", "1a\nx\n.\n", "1d0\n< a\n", "0a1\n> x\n", "@@ -1 +0,0 @@\n-a\n", "@@ -0,0 +1 @@\n+x\n", stars + "*** 1 ****\n- a\n--- 0 ----\n", "1s/.//\n", "\n", "1"}
	for _, part := range parts {
		for _, many := range []int{1, 2, impl.MaxHunks, impl.MaxHunks + 1, 3 * impl.MaxHunks, 3*impl.MaxHunks + 1, impl.MaxPatch / len(part)} {
			text := strings.Repeat(part, many)
			if len(text) > impl.MaxPatch {
				checkMoreThanMost(t, text)
				continue
			}
			for _, m := range manners() {
				checkAsModel(t, "much", m, text, manyLines(impl.MaxLines), 1)
				checkAsModel(t, "much", m, text, linesBy("a"), 1)
			}
		}
		checkMoreThanMost(t, strings.Repeat(part, 100000))
	}
}

// A number that an int can not hold, or only just can, is none in any way.
func TestNumbersThatAnIntCanNotHoldInEachWay(t *testing.T) {
	for _, n := range []string{"9223372036854775807", "9223372036854775808", "18446744073709551617", "-1", "4294967297", "-9223372036854775808", "10000"} {
		for _, text := range []string{n + "d0\n< a\n", "1d" + n + "\n< a\n", n + "d\n", "1," + n + "d\n", n + "a\nx\n.\n", "@@ -" + n + " +1 @@\n-a\n+x\n", "@@ -1 +1," + n + " @@\n-a\n+x\n",
			stars + "*** " + n + " ****\n! a\n--- 1 ----\n! x\n", stars + "*** 1 ****\n! a\n--- " + n + " ----\n! x\n"} {
			checkWays(t, "such a number", text)
			for _, m := range manners() {
				checkCoded(t, "such a number", m, text, linesBy("a"), impl.PtBad)
			}
		}
	}
}

// callWays calls each function of the layer and writes into what it answers.
func callWays(way int, text string, l []string, h hunks, width int) {
	impl.IsPatch(way, text)
	ways, _ := impl.WaysOf(text)
	for i := range ways[:cap(ways)] {
		ways[:cap(ways)][i] = -9
	}
	made, _, _ := impl.Apply(way, text, l)
	spoilLines(made)
	told, _, _ := impl.HunksOf(way, text, l)
	spoil(told)
	impl.WriteWay(way, l, h, width)
	impl.BackPatch(way, text, l, width)
	for to := impl.WyNormal - 1; to <= impl.WyEd+1; to++ {
		impl.Translate(way, to, text, l, width)
	}
}

func TestNothingIsChangedInAnyWay(t *testing.T) {
	lists := append(sharingCases(), nil, hunks{{At: 9, New: linesBy("x")}}, hunks{{New: linesBy(".x")}}, hunks{{At: 1, Gone: 2, New: []string{".\n", ""}}})
	for _, text := range [][]string{nil, fourLines(), linesBy("abc.d"), {".\n", ".b"}, {"a", "b\n"}} {
		for _, g := range lists {
			for _, patch := range someTexts() {
				for way := impl.WyNormal - 1; way <= impl.WyEd+1; way++ {
					l, roomL := within(text)
					h, roomH := hunksWithin(g)
					beforeL, beforeH := slices.Clone(roomL), deepCopy(roomH)
					callWays(way, patch, l, h, 1)
					if !slices.Equal(roomL, beforeL) || !unchanged(roomH, beforeH) {
						t.Fatalf("changed by %d: %q, %#v, %.80q", way, text, g, patch)
					}
				}
			}
		}
	}
}

func TestListsInEachWayShareNoMemory(t *testing.T) {
	for _, h := range append(sharingCases(), nil) {
		for _, m := range manners() {
			l, room := within(fourLines())
			before := slices.Clone(room)
			text := m.write(fourLines(), h, 1)
			made, code, ok := impl.Apply(m.way, text, l)
			if code != 0 || !ok || !slices.Equal(made, plainOf(change(markedOf(fourLines()), h))) {
				t.Fatalf("%d: Apply(%q) = %q, %d, %v", m.way, text, made, code, ok)
			}
			told, _, _ := impl.HunksOf(m.way, text, l)
			checkApart(t, "HunksOf", told)
			checkApart(t, "Apply", hunks{{New: made}})
			if !slices.Equal(room, before) {
				t.Errorf("%d: lines are shared: %q", m.way, room)
			}
		}
	}
	ways, _ := impl.WaysOf("")
	for i := range ways[:cap(ways)] {
		ways[:cap(ways)][i] = -9
	}
	checkWays(t, "again", "", impl.WyNormal, impl.WyUnified, impl.WyContext, impl.WyEd)
}

func TestWhatIsBehindIsNotReadInAnyWay(t *testing.T) {
	for _, c := range allWaysCases() {
		for i, m := range manners() {
			l, _ := within(c.l)
			h, _ := hunksWithin(c.h)
			text, code := toldAs(c.texts[i])
			checkWayText(t, c.name, m, l, h, c.width, text, code)
			if code != 0 {
				continue
			}
			for j, to := range manners() {
				want, code := toldAs(c.texts[j])
				checkTurned(t, c.name, m, to, text, l, c.width, want, code)
			}
			want, code := toldAs(c.backs[i])
			checkTurnedBack(t, c.name, m, text, l, c.width, want, code)
		}
	}
	// With the line behind them, the lines would be far enough.
	l, _ := within(fourLines())
	for _, c := range codedCases() {
		checkCoded(t, c.name, manners()[c.way-1], c.text, l, c.code)
	}
}

func TestNothingIsKeptInAnyWay(t *testing.T) {
	for _, c := range allWaysCases() {
		for i, m := range manners() {
			text, code := toldAs(c.texts[i])
			if code != 0 {
				continue
			}
			for range 2 {
				made, _ := impl.Patch(c.l, c.h)
				checkMade(t, c.name, m, text, c.l, made, 0)
				checkCoded(t, "a fault between", m, text+"x", c.l, impl.PtBad)
				callWays(m.way, text, c.l, c.h, c.width)
				checkNoMade(t, "a fault between", -1, text, c.l)
				checkNoMade(t, "a fault between", m.way, text, linesBy(".ab"))
				checkAsModel(t, c.name, m, text, c.l, c.width)
			}
		}
	}
}
