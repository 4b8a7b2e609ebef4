package tests

import (
	"slices"
	"strings"
	"testing"

	"loop.example/g01206/impl"
)

// refusePath checks that functions fail for a text.
func refusePath(t *testing.T, s string, calls ...pathCall) {
	t.Helper()
	for _, c := range calls {
		if got := c.call(s); !got.failed {
			t.Errorf("%s(%q) = %s", c.name, s, got.text)
		}
	}
}

func TestFunctionsOfPathsRefuseOtherTexts(t *testing.T) {
	for _, s := range noPaths() {
		refusePath(t, s, pathCalls()...)
		for _, other := range []string{"", "u", "rurdll", s, long("lr", 200), "x"} {
			got, ok := impl.JoinPaths(s, other)
			wantNoText(t, got, ok, "JoinPaths", s, other)
			got, ok = impl.JoinPaths(other, s)
			wantNoText(t, got, ok, "JoinPaths", other, s)
		}
	}
	// Corners and nails that paths have, in texts that are none.
	for _, s := range []string{"ru" + "x", "ruldr ", "U" + "ru", wayTo(12, 1) + "rl", "rurdll" + long("l", 13), long("ruld", 100) + "r", "ru" + wayTo(0, 12) + "d"} {
		for i := range len(s) {
			refusePath(t, s, pushCall(i))
		}
		refusePath(t, s, pathCalls()...)
	}
}

// Of each function that can answer for all paths, the answer to texts of 400 steps, but not of 401.
func TestFunctionsOfPathsTakeMaxPathSteps(t *testing.T) {
	for _, s := range []string{long("ruld", 100), long("d", 12) + long("udrl", 96) + "ruld"} {
		for _, c := range pathCalls() {
			if got := c.call(s); got.failed != (c.name == "ReversePath" && !isLoop(s)) && !strings.HasPrefix(c.name, "PushCorner") {
				t.Errorf("%s(%q) = %s", c.name, s, got.text)
			}
			for _, step := range []string{"l", "r", "u", "d"} {
				refusePath(t, s+step, c)
			}
		}
	}
}

func TestLoopPathRefusesWhatIsNoWord(t *testing.T) {
	refuseNoWords(t, []wordCall{loopPathCall()}, nil)
	for _, w := range [][]int{{0}, {7}, {-7}, {1, 0}, {0, 1}, {1, 7, 2}, {-7, -1}, repeated(1, 65), repeated(-1, 65), joined(repeated(1, 64), []int{0})} {
		refuse(t, w, loopPathCall())
	}
}

func TestTurnsAroundRefusesOtherNails(t *testing.T) {
	for _, s := range []string{"", "u", "rurdll", "rruldl", "ru" + long("rdlu", 99), wayTo(8, 1) + "rl", "ulr", wayTo(-3, 2) + "rl", "x", "rurdlL", long("u", 13)} {
		for _, n := range append(noNails(), noFrom(1, 6)...) {
			refusePath(t, s, turnsCall(n))
		}
	}
}

func TestLoopPathTakesNilAsEmpty(t *testing.T) {
	takeNilAsEmpty(t, []wordCall{loopPathCall()})
}

func TestLoopPathLeavesItsWordAlone(t *testing.T) {
	pairs := wordPairs()
	for _, w := range [][]int{nil, {}, {1}, {-6}, {1, 2, -1, -2}, {1, -1}, repeated(1, 64), repeated(6, 25), repeated(6, 26), {0}, {1, 7}, repeated(1, 65)} {
		pairs = append(pairs, [2][]int{w, nil})
	}
	leaveAlone(t, []wordCall{loopPathCall()}, pairs)
}

// A path stays when its word is changed behind the call.
func TestLoopsStayWhenTheirWordsAreChanged(t *testing.T) {
	w := []int{1, -2, 1}
	s, ok := impl.LoopPath(w[:2])
	spoil(w)
	wantText(t, s, ok, "rurdllrrruldll", "LoopPath", "aB")
}

// Texts stay as they are, and whatever is done to an answer changes no later one.
func TestAnswersOfPathsAreTheirOwn(t *testing.T) {
	texts := append(knownPaths()[1000:], noPaths()...)
	for _, s := range texts {
		kept := strings.Clone(s)
		for _, c := range pathCalls() {
			first := c.call(s)
			for _, list := range first.lists {
				spoil(list)
			}
			if again := c.call(s); again.text != first.text || s != kept {
				t.Errorf("%s(%q) = %s, and then %s of %q", c.name, kept, first.text, again.text, s)
			}
		}
	}
}

// The same of Visits, and of the room behind them.
func TestVisitsAreTheirOwn(t *testing.T) {
	for _, s := range append(append(edgePaths(), loopPaths()...), "", "u", "rl", "llrr", "x") {
		first, fine := impl.VisitsOf(s)
		kept := slices.Clone(first)
		room := first[:cap(first)]
		for i := range room {
			room[i] = impl.Visit{X: 99, Y: 99, Times: 99}
		}
		again, ok := impl.VisitsOf(s)
		if ok != fine || !slices.Equal(again, kept) {
			t.Errorf("VisitsOf(%q) = %v, and then %v", s, kept, again)
		}
	}
}

// A change of a list that is told of a path changes no list of another kind.
func TestListsOfPathsAreTheirOwn(t *testing.T) {
	s := "rurdllrrruldll"
	w, _ := impl.ReadPath(s)
	corners, _ := impl.FreeCorners(s)
	second, _ := impl.ReadPath(s)
	spoil(w)
	if !slices.Equal(corners, []int{0}) || !slices.Equal(second, []int{1, -2}) {
		t.Error("lists", corners, second)
	}
	spoil(corners)
	if !slices.Equal(second, []int{1, -2}) {
		t.Error("word", second)
	}
	again, ok := impl.FreeCorners(s)
	wantWord(t, again, ok, []int{0}, "FreeCorners", s)
}
