package tests

import (
	"runtime"
	"slices"
	"strings"
	"sync"
	"testing"
	"time"

	"loop.example/g00825/impl"
)

// checkNoContext expects no text of lines, hunks and a width.
func checkNoContext(t *testing.T, name string, l []string, h hunks, width int) {
	t.Helper()
	if s, ok := impl.ContextText(l, h, width); s != "" || ok {
		t.Errorf("%s: ContextText(%#v, %#v, %d) = %q, %v", name, l, h, width, s, ok)
	}
}

// checkNoHalf expects no half of a group.
func checkNoHalf(t *testing.T, name string, g impl.Group) {
	t.Helper()
	for _, old := range []bool{true, false} {
		if s, ok := impl.HalfText(g, old); s != "" || ok {
			t.Errorf("%s: HalfText(%v, %v) = %q, %v", name, g, old, s, ok)
		}
	}
}

func TestBadGroupsAreNotBeside(t *testing.T) {
	ahead, behind := groupBy(0, 0, "-a"), groupBy(990, 990, "-a")
	for name, g := range badGroups() {
		checkNoHalf(t, name, g)
		checkNotBeside(t, name, groups{g})
		checkNotBeside(t, name+", the second", groups{ahead, g})
		checkNotBeside(t, name+", the first", groups{g, behind})
	}
	for name, g := range badManyGroups() {
		checkNotBeside(t, name, g)
		checkNoSides(t, name, textOfSides(g))
	}
}

// canBeSigned says whether each row is of a kind that has a sign.
func canBeSigned(g groups) bool {
	return !slices.ContainsFunc(g, func(k impl.Group) bool {
		return slices.ContainsFunc(k.Rows, func(row impl.Row) bool { return signOf(row.Kind) == "" })
	})
}

// What would be written of groups that are not good is none, where it is not the text of others.
func TestTextsOfBadGroupsAreNotRead(t *testing.T) {
	none := 0
	for _, g := range smallBadGroups() {
		if canBeSigned(g) && !checkAnySides(t, textOfSides(g)) {
			none++
		}
	}
	if none < 50 {
		t.Errorf("only %d are none", none)
	}
}

func TestBadChangesAreNotBeside(t *testing.T) {
	eachBadChange(func(name string, l []string, h hunks, width int) {
		checkNoContext(t, name, l, h, width)
	})
}

func TestReadContextOfAnyBytes(t *testing.T) {
	for first := range 256 {
		one := string([]byte{byte(first)})
		checkNoSides(t, "one byte", one)
		checkNoSides(t, "one byte and an end", one+"\n")
		checkSameSides(t, "one byte", one, one, false, false)
		for _, line := range []string{one + "\n", one + "\n\\ none\n"} {
			checkAnySides(t, stars+"*** 1 ****\n- "+line+"--- 0 ----\n")
			checkAnySides(t, stars+"*** 0 ****\n--- 1 ----\n+ "+line)
			checkAnySides(t, stars+"*** 1,2 ****\n- a\n  "+line+"--- 1,2 ----\n  "+line+"+ x\n")
		}
		checkAnySides(t, stars+"*** 1 ****\n"+one+" a\n--- 0 ----\n")
		checkAnySides(t, stars+"*** 1 ****\n-"+one+"a\n--- 0 ----\n")
		checkAnySides(t, stars+"*** 1 ****\n"+one+" a\n--- 1 ----\n! x\n")
		checkAnySides(t, stars+"*** 1"+one+" ****\n- a\n--- 0 ----\n")
		checkAnySides(t, stars+"*** 1"+one+"2 ****\n- a\n- b\n--- 0 ----\n")
		checkAnySides(t, stars+"*** "+one+" ****\n- a\n--- 0 ----\n")
		checkAnySides(t, stars+"*** 1 ****\n! a\n--- "+one+" ----\n! x\n")
		checkAnySides(t, stars+"***"+one+"1 ****\n- a\n--- 0 ----\n")
		checkAnySides(t, stars+"*** 1"+one+"****\n- a\n--- 0 ----\n")
		checkAnySides(t, stars+"*** 1 ****"+one+"- a\n--- 0 ----\n")
		checkAnySides(t, strings.Repeat("*", 14)+one+"\n*** 1 ****\n- a\n--- 0 ----\n")
		for second := range 256 {
			checkNoSides(t, "two bytes", one+string([]byte{byte(second)}))
		}
	}
}

func TestReadContextOfMuch(t *testing.T) {
	parts := []string{"\n", "1", "*", stars, "*** 1 ****\n", "--- 1 ----\n", "- a\n", "+ a\n", "! a\n", "  a\n", "- ", "\\ none\n", "\x00", "\xff",
		stars + "*** 1 ****\n- a\n--- 0 ----\n", stars + "*** 0 ****\n--- 1 ----\n+ x\n", stars + "*** 0 ****\n--- 0 ----\n", "*** 1 ****\n--- 1 ----\n"}
	for _, part := range parts {
		for _, ahead := range []string{"", stars + "*** 1,999 ****\n", stars + "*** 1,40 ****\n- a\n--- 0 ----\n", stars + "*** 0 ****\n--- 1,999 ----\n"} {
			checkNoSides(t, "much of it", ahead+strings.Repeat(part, 100000/len(part)))
			checkNoSides(t, "most of it", ahead+strings.Repeat(part, (impl.MaxPatch-len(ahead))/len(part)))
		}
	}
	checkNoSides(t, "much behind", goodSides+strings.Repeat(" ", 100000))
	checkNoSides(t, "many digits", stars+"*** "+strings.Repeat("1", 2000)+" ****\n- a\n--- 0 ----\n")
	checkNoSides(t, "many digits behind a comma", stars+"*** 1,"+strings.Repeat("1", 2000)+" ****\n- a\n--- 0 ----\n")
	checkSameSides(t, "much", strings.Repeat("*", 100000), strings.Repeat("@", 100000), false, false)
}

// A range whose numbers, or both added, an int can not hold, or only just can, is none.
func TestReadContextOfNumbersThatAnIntCanNotHold(t *testing.T) {
	numbers := []string{"9223372036854775807", "9223372036854775808", "18446744073709551615", "18446744073709551616", "18446744073709551617", "-9223372036854775808",
		"-9223372036854775809", "-1", "4294967296", "4294967297", "340282366920938463463374607431768211457"}
	for _, n := range numbers {
		for _, both := range []string{n, n + ",1", "1," + n, "0," + n, n + "," + n, n + ",0"} {
			checkNoSides(t, "the old half", stars+"*** "+both+" ****\n- a\n--- 0 ----\n")
			checkNoSides(t, "the old half, two", stars+"*** "+both+" ****\n- a\n- b\n--- 0 ----\n")
			checkNoSides(t, "the old half, none", stars+"*** "+both+" ****\n--- 1 ----\n+ x\n")
			checkNoSides(t, "the new half", stars+"*** 1 ****\n! a\n--- "+both+" ----\n! x\n")
			checkNoSides(t, "the new half, none", stars+"*** 1 ****\n- a\n--- "+both+" ----\n")
			checkNoSides(t, "both halves", stars+"*** "+both+" ****\n! a\n--- "+both+" ----\n! x\n")
		}
	}
}

// callContext calls each function of the layer and writes into what it answers.
func callContext(l []string, h hunks, g groups) {
	for _, width := range []int{-1, 0, 1, impl.MaxWidth} {
		impl.ContextText(l, h, width)
	}
	text, _ := impl.SidesText(g)
	read, _, _ := impl.ReadContext(text)
	spoilGroups(read)
	for _, k := range g {
		impl.HalfText(k, true)
		impl.HalfText(k, false)
	}
	impl.SameSides(text, textOfGroups(g))
}

func TestNothingIsChangedBeside(t *testing.T) {
	checkNoneChanged(t, callContext)
}

func TestListsOfSidesShareNoMemory(t *testing.T) {
	cases := []groups{goodBeside(), {groupBy(0, 0, "=a+x=b"), groupBy(2, 3, "=a-b=c"), groupBy(9, 9, "=a-b+x=c=d=e")}}
	for _, h := range sharingCases() {
		for width := range 3 {
			cases = append(cases, groupsBy(fourLines(), h, width))
		}
	}
	for _, g := range cases {
		text := textOfSides(g)
		read, code, ok := impl.ReadContext(text)
		if len(read) != len(g) || code != 0 || !ok {
			t.Fatalf("%v, %d, %v", read, code, ok)
		}
		checkGroupsApart(t, "ReadContext", read)
		checkSidesTo(t, "read again", text, g)
	}
}

func TestWhatIsBehindIsNotReadBeside(t *testing.T) {
	for _, h := range append(sharingCases(), nil) {
		for width := range 3 {
			want := groupsBy(fourLines(), h, width)
			l, _ := within(fourLines())
			inH, _ := hunksWithin(h)
			inG, _ := groupsWithin(want)
			checkContext(t, "in a larger array", l, inH, width, textOfSides(want))
			checkBeside(t, "in a larger array", inG, textOfSides(want))
		}
	}
	// The row behind it, and the one ahead, are such that go: with them other signs would be told.
	comes, _ := rowsWithin(rowsBy("=a+b"))
	checkBeside(t, "what goes is behind what comes", groups{{Rows: comes}}, stars+"*** 1 ****\n--- 1,2 ----\n  a\n+ b\n")
	first, _ := rowsWithin(rowsBy("+b=a"))
	checkBeside(t, "what goes is ahead of what comes", groups{{Rows: first}}, stars+"*** 1 ****\n--- 1,2 ----\n+ b\n  a\n")
	stays, _ := rowsWithin(rowsBy("=a"))
	checkNotBeside(t, "what goes is behind it", groups{{Rows: stays}})
	checkNoHalf(t, "what goes is behind it", impl.Group{Rows: stays})
	for end := range len(goodSides) + 1 {
		checkAnySides(t, goodSides[:end])
		checkAnySides(t, (goodSides + behindAll)[end:])
	}
}

func TestNothingIsKeptBeside(t *testing.T) {
	l := fourLines()
	for _, h := range sharingCases() {
		for width := range 3 {
			g := groupsBy(l, h, width)
			text := textOfSides(g)
			for range 2 {
				checkContext(t, "again", l, h, width, text)
				checkNoSides(t, "a fault between", text+"x")
				checkNotBeside(t, "a fault between", append(groups{groupBy(999, 999, "-a")}, g...))
				checkNoHalf(t, "a fault between", groupBy(1000, 0, "+x"))
				callContext(l, h, g)
			}
		}
	}
}

// Both halves are written at the same time: no order in which that is done may be seen, and none may be under way behind the answer.
func TestHalvesAreJoined(t *testing.T) {
	wide := slices.Repeat([]string{full(impl.MaxLine)}, impl.MaxLines)
	most := impl.Group{Rows: slices.Concat(rowsAs(impl.RwGone, wide), rowsAs(impl.RwNew, wide))}
	before := runtime.NumGoroutine()
	var all sync.WaitGroup
	for range 8 {
		all.Go(func() {
			for range 50 {
				checkBeside(t, "at the same time", groups{most}, textOfSides(groups{most}))
				checkBeside(t, "at the same time", goodBeside(), goodSides)
				checkNoSides(t, "at the same time", goodSides+"x")
			}
		})
	}
	all.Wait()
	// What was waited for may still be about to end.
	for tries := 0; runtime.NumGoroutine() > before && tries < 1000; tries++ {
		time.Sleep(time.Millisecond)
	}
	if n := runtime.NumGoroutine(); n > before {
		t.Errorf("%d are still under way", n-before)
	}
}

// What a caller writes into a group behind the answer is not seen in it.
func TestGroupsMayBeWrittenBehindTheAnswer(t *testing.T) {
	for range 200 {
		g := goodBeside()
		text, _ := impl.SidesText(g)
		old, _ := impl.HalfText(g[0], true)
		spoilGroups(g)
		if text != goodSides || old != halfBy(goodBeside()[0], true) {
			t.Fatalf("%q, %q", text, old)
		}
	}
}
