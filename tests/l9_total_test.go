package tests

import (
	"slices"
	"testing"

	"loop.example/g01206/impl"
)

func TestGamesRefuseWhatIsNoWord(t *testing.T) {
	refuseNoWords(t, gameCalls(), nil, []int{1, 2}, []int{0})
	for n := -1; n <= 7; n++ {
		for _, set := range []int{-1, 0, 1, 63, 64} {
			refuseNoWords(t, positionCalls(n, set), nil)
		}
		refuseNoWords(t, losingCalls(n), nil)
	}
}

// gamesMayBeOf are words beside which only a number can be at fault.
func gamesMayBeOf() [][]int {
	return append(wordsThatMayBeAnything(), []int{6}, wordOf("abABacACbcBC"), wordOf("abcdef"), repeated(-5, impl.MaxWord))
}

func TestGamesRefuseOtherNumbers(t *testing.T) {
	for _, w := range gamesMayBeOf() {
		for _, n := range append(noFrom(1, 6), 0, 7, -1) {
			for _, set := range append(noSets(), 0, 1, 2, 62, 63) {
				refuse(t, w, positionCalls(n, set)...)
			}
			refuse(t, w, losingCalls(n)...)
		}
	}
}

func TestGamesRefuseOtherPositions(t *testing.T) {
	for _, w := range gamesMayBeOf() {
		for n := 1; n <= 6; n++ {
			for _, set := range noSets() {
				refuse(t, w, positionCalls(n, set)...)
			}
			// Some nail that is out is none of 1..n.
			for set := subsetsOf(n); set < 64; set++ {
				refuse(t, w, positionCalls(n, set)...)
			}
		}
	}
}

// Some nail of these words is above n, and holds when all others are out.
func TestGamesRefuseWordsThatNeverFall(t *testing.T) {
	for _, c := range []struct {
		text string
		n    int
	}{
		{"d", 3}, {"ad", 3}, {"b", 1}, {"F", 5}, {"abABd", 3}, {"abABf", 5}, {"aabbcD", 3}, {"abcdef", 5}, {"dabAB", 2},
	} {
		for set := range 64 {
			refuse(t, wordOf(c.text), positionCalls(c.n, set)...)
		}
		refuse(t, wordOf(c.text), losingCalls(c.n)...)
	}
	// A letter above n does no harm if it vanishes with the others.
	for _, text := range []string{"dDa", "adAD", "dabABD", "fabABF"} {
		if _, ok := impl.CanDrop(wordOf(text), 2, 0); !ok {
			t.Errorf("CanDrop(%s, 2, 0) failed", text)
		}
	}
	checkPosition(t, wordOf("adAD"), 3, 0, &played{[]int{1}, nil, 0, []int{2, 3}, 3, 1, [2]int{2, 1}, [2]int{2, 3}})
}

func TestGamesRefuseEndedPositions(t *testing.T) {
	for _, w := range [][]int{nil, {}, {1, -1}, {6, 2, -3, 3, -2, -6}, slices.Repeat([]int{1, -1}, 32), joined(repeated(4, 32), repeated(-4, 32))} {
		for n := 1; n <= 6; n++ {
			for set := range 64 {
				refuse(t, w, positionCalls(n, set)...)
			}
			refuse(t, w, losingCalls(n)...)
		}
	}
	for _, c := range []struct {
		text string
		n    int
		sets []int
	}{
		{"a", 1, []int{1}}, {"a", 3, []int{1, 3, 5, 7}}, {"abAB", 2, []int{1, 2, 3}}, {"abAB", 3, []int{1, 2, 3, 5, 6, 7}},
		{"abc", 3, []int{7}}, {"abc", 6, []int{7, 15, 23, 39, 63}}, {"abABacACbcBC", 3, []int{3, 5, 6, 7}}, {"adAD", 3, []int{1, 3, 5, 7}},
	} {
		for _, set := range c.sets {
			refuse(t, wordOf(c.text), positionCalls(c.n, set)...)
		}
	}
}

// Words that fall alike have the same games: opposites, conjugates by letters of other nails
// that do not matter, the word for their rule, and powers.
func TestWordsThatFallAlikeHaveTheSameGames(t *testing.T) {
	tried := 0
	for i, w := range ruleWords(t) {
		rule, _ := impl.FamilyOfWord(w)
		others := [][]int{opposite(w), joined([]int{-3, 5}, w, []int{-5, 3}), joined(w, w), joined([]int{2, -2}, w)}
		if built, ok := impl.BuildWord(rule); ok {
			others = append(others, built)
		}
		for _, other := range others {
			if alike, ok := impl.FallAlike(w, other); !ok || !alike {
				continue
			}
			tried++
			n := 4 + (i+tried)%3
			calls := losingCalls(n)
			for set := range subsetsOf(n) {
				if (set+i)%8 == 0 {
					calls = append(calls, positionCalls(n, set)...)
				}
			}
			for _, c := range calls {
				if a, b := c.call(w, []int{3, 1, 4, 2}).text, c.call(other, []int{3, 1, 4, 2}).text; a != b {
					t.Errorf("%s of %v and of %v: %s and %s", c.name, w, other, a, b)
				}
			}
		}
	}
	if tried < 500 {
		t.Errorf("%d pairs that fall alike", tried)
	}
}

func TestGamesTakeNilAsEmpty(t *testing.T) {
	takeNilAsEmpty(t, gameCalls())
}

func TestGamesLeaveArgumentsAlone(t *testing.T) {
	pairs := wordPairs()
	for _, text := range []string{"", "a", "abAB", "abc", "ABcbC", "abABacACbcBC", "abcdef", "faEAe", "cabABC", "aA"} {
		for _, list := range [][]int{nil, {1}, {3, 1, 2}, {6, 5, 4, 3, 2, 1}, {1, 0}, {2, 2}, {3, 7}, repeated(4, 70)} {
			pairs = append(pairs, [2][]int{wordOf(text), list})
		}
	}
	leaveAlone(t, gameCalls(), pairs)
}

func TestGamesTakeSharedMemory(t *testing.T) {
	calls := append(positionCalls(6, 0), playNailsCall(4, 0), playNailsCall(4, 8))
	takeSharedMemory(t, calls, []int{1, 2, -2, 3, -1, 4, 4})
	takeSharedMemory(t, calls, []int{3, 1, 2, 4, 2, 1, 5})
}

// What is told of games stays when the word and the list are changed behind the call.
func TestAnswersStayWhenTheirGamesAreChanged(t *testing.T) {
	w, list := wordOf("ABcbC"), []int{4, 1}
	drop, _ := impl.DropMoves(w, 4, 0)
	keep, _ := impl.KeepMoves(w, 4, 0)
	safe, _ := impl.SafeNails(w, 4, 0)
	mean, _ := impl.MeanGame(w, 4, 0)
	lost, _ := impl.LosingSets(w, 3, false)
	out, taken, _ := impl.PlayNails(w, 4, 0, list)
	spoil(w)
	spoil(list)
	if !slices.Equal(drop, []int{4}) || !slices.Equal(keep, []int{2, 3}) || !slices.Equal(safe, []int{1, 2, 3, 4}) {
		t.Error("moves", drop, keep, safe)
	}
	if mean != [2]int{35, 12} || !slices.Equal(lost, []int{1, 6}) || out != 9 || taken != 2 {
		t.Error("others", mean, lost, out, taken)
	}
}

// A change of an answer changes no later answer of any function.
func TestMovesAreTheirOwn(t *testing.T) {
	for _, c := range gameCases() {
		w := wordOf(c.text)
		for _, call := range append(positionCalls(c.n, c.set), losingCalls(c.n)...) {
			for _, list := range call.call(w, nil).lists {
				spoil(list)
			}
		}
		checkPosition(t, w, c.n, c.set, &c.played)
	}
}
