package tests

import (
	"slices"
	"testing"

	"loop.example/g01206/impl"
)

// gameCase is a position and what the document tells of it.
type gameCase struct {
	text string
	n    int
	set  int
	played
}

// gameCases come from a separate program, which goes through all orders of the nails.
func gameCases() []gameCase {
	lines := []gameCase{
		// One nail is left.
		{"a", 1, 0, played{[]int{1}, nil, 0, nil, 1, 1, [2]int{1, 1}, [2]int{1, 1}}},
		{"F", 6, 31, played{[]int{6}, nil, 0, nil, 1, 1, [2]int{1, 1}, [2]int{1, 1}}},
		{"a", 3, 6, played{[]int{1}, nil, 0, nil, 1, 1, [2]int{1, 1}, [2]int{1, 1}}},
		{"abc", 3, 6, played{[]int{1}, nil, 0, nil, 1, 1, [2]int{1, 1}, [2]int{1, 1}}},
		{"abcdef", 6, 62, played{[]int{1}, nil, 0, nil, 1, 1, [2]int{1, 1}, [2]int{1, 1}}},
		// One nail makes the word fall; the others do not matter.
		{"a", 3, 0, played{[]int{1}, nil, 0, []int{2, 3}, 3, 1, [2]int{2, 1}, [2]int{2, 3}}},
		{"a", 3, 2, played{[]int{1}, []int{3}, 1, []int{3}, 2, 1, [2]int{3, 2}, [2]int{1, 2}}},
		{"a", 6, 0, played{[]int{1}, []int{2, 3, 4, 5, 6}, 1, []int{2, 3, 4, 5, 6}, 6, 1, [2]int{7, 2}, [2]int{1, 2}}},
		{"c", 3, 0, played{[]int{3}, nil, 0, []int{1, 2}, 3, 1, [2]int{2, 1}, [2]int{2, 3}}},
		{"f", 6, 1, played{[]int{6}, nil, 0, []int{2, 3, 4, 5}, 5, 1, [2]int{3, 1}, [2]int{3, 5}}},
		// Any one of some nails does.
		{"abAB", 2, 0, played{[]int{1, 2}, nil, 0, nil, 1, 1, [2]int{1, 1}, [2]int{1, 1}}},
		{"abAB", 3, 0, played{[]int{1, 2}, []int{3}, 1, []int{3}, 2, 1, [2]int{4, 3}, [2]int{2, 3}}},
		{"abAB", 3, 4, played{[]int{1, 2}, nil, 0, nil, 1, 1, [2]int{1, 1}, [2]int{1, 1}}},
		{"abAB", 4, 0, played{[]int{1, 2}, nil, 0, []int{3, 4}, 3, 1, [2]int{5, 3}, [2]int{2, 3}}},
		{"abAB", 6, 0, played{[]int{1, 2}, nil, 0, []int{3, 4, 5, 6}, 5, 1, [2]int{7, 3}, [2]int{3, 5}}},
		{"abAB", 6, 4, played{[]int{1, 2}, []int{4, 5, 6}, 1, []int{4, 5, 6}, 4, 1, [2]int{2, 1}, [2]int{3, 5}}},
		{"abAB", 6, 60, played{[]int{1, 2}, nil, 0, nil, 1, 1, [2]int{1, 1}, [2]int{1, 1}}},
		{"abABcdCDbaBAdcDC", 4, 0, played{[]int{1, 2, 3, 4}, nil, 0, nil, 1, 1, [2]int{1, 1}, [2]int{1, 1}}},
		{"abABcdCDbaBAdcDC", 6, 0, played{[]int{1, 2, 3, 4}, nil, 0, []int{5, 6}, 3, 1, [2]int{7, 5}, [2]int{11, 15}}},
		{"cabABC", 3, 0, played{[]int{1, 2}, []int{3}, 1, []int{3}, 2, 1, [2]int{4, 3}, [2]int{2, 3}}},
		// The word falls only at the last one.
		{"abc", 3, 0, played{[]int{1, 2, 3}, nil, 0, []int{1, 2, 3}, 3, 3, [2]int{3, 1}, [2]int{1, 1}}},
		{"abc", 3, 1, played{nil, []int{2, 3}, 1, []int{2, 3}, 2, 2, [2]int{2, 1}, [2]int{0, 1}}},
		{"abc", 4, 0, played{nil, []int{1, 2, 3, 4}, 1, []int{1, 2, 3, 4}, 4, 3, [2]int{15, 4}, [2]int{1, 4}}},
		{"abc", 6, 0, played{nil, []int{1, 2, 3, 4, 5, 6}, 1, []int{1, 2, 3, 4, 5, 6}, 6, 3, [2]int{21, 4}, [2]int{7, 20}}},
		{"abc", 6, 32, played{[]int{1, 2, 3, 4, 5}, nil, 0, []int{1, 2, 3, 4, 5}, 5, 3, [2]int{9, 2}, [2]int{7, 10}}},
		{"abcd", 4, 0, played{nil, []int{1, 2, 3, 4}, 1, []int{1, 2, 3, 4}, 4, 4, [2]int{4, 1}, [2]int{0, 1}}},
		{"abcde", 5, 0, played{[]int{1, 2, 3, 4, 5}, nil, 0, []int{1, 2, 3, 4, 5}, 5, 5, [2]int{5, 1}, [2]int{1, 1}}},
		{"abcdef", 6, 0, played{nil, []int{1, 2, 3, 4, 5, 6}, 1, []int{1, 2, 3, 4, 5, 6}, 6, 6, [2]int{6, 1}, [2]int{0, 1}}},
		{"abcdef", 6, 1, played{[]int{2, 3, 4, 5, 6}, nil, 0, []int{2, 3, 4, 5, 6}, 5, 5, [2]int{5, 1}, [2]int{1, 1}}},
	}
	return append(lines, mixedCases()...)
}

// mixedCases are positions of words that fall for some nails together.
func mixedCases() []gameCase {
	return []gameCase{
		{"abABacACbcBC", 3, 0, played{nil, []int{1, 2, 3}, 1, []int{1, 2, 3}, 2, 2, [2]int{2, 1}, [2]int{0, 1}}},
		{"abABacACbcBC", 3, 2, played{[]int{1, 3}, nil, 0, nil, 1, 1, [2]int{1, 1}, [2]int{1, 1}}},
		{"abABacACbcBC", 4, 0, played{[]int{4}, nil, 0, []int{1, 2, 3, 4}, 3, 2, [2]int{5, 2}, [2]int{1, 2}}},
		{"abABacACbcBC", 4, 9, played{[]int{2, 3}, nil, 0, nil, 1, 1, [2]int{1, 1}, [2]int{1, 1}}},
		{"abABacACbcBC", 5, 0, played{nil, []int{1, 2, 3, 4, 5}, 1, []int{1, 2, 3, 4, 5}, 4, 2, [2]int{3, 1}, [2]int{2, 5}}},
		{"fdFDfeFEdeDE", 6, 0, played{[]int{1, 2, 3}, nil, 0, []int{1, 2, 3, 4, 5, 6}, 5, 2, [2]int{7, 2}, [2]int{1, 2}}},
		{"abcBAC", 3, 0, played{[]int{3}, []int{1, 2}, 1, []int{1, 2}, 2, 1, [2]int{5, 3}, [2]int{1, 3}}},
		{"abcBAC", 3, 1, played{[]int{2, 3}, nil, 0, nil, 1, 1, [2]int{1, 1}, [2]int{1, 1}}},
		{"abcBAC", 4, 0, played{[]int{3}, nil, 0, []int{1, 2, 4}, 3, 1, [2]int{25, 12}, [2]int{7, 12}}},
		{"abcBAC", 5, 16, played{[]int{3}, nil, 0, []int{1, 2, 4}, 3, 1, [2]int{25, 12}, [2]int{7, 12}}},
		{"aabcAACB", 3, 0, played{[]int{1}, []int{2, 3}, 1, []int{2, 3}, 2, 1, [2]int{5, 3}, [2]int{1, 3}}},
		{"ABcbC", 3, 0, played{nil, []int{1}, 2, []int{1, 2, 3}, 3, 2, [2]int{7, 3}, [2]int{1, 3}}},
		{"ABcbC", 3, 1, played{[]int{2, 3}, nil, 0, nil, 1, 1, [2]int{1, 1}, [2]int{1, 1}}},
		{"ABcbC", 4, 0, played{[]int{4}, []int{2, 3}, 3, []int{1, 2, 3, 4}, 4, 2, [2]int{35, 12}, [2]int{5, 12}}},
		{"BabDA", 4, 0, played{[]int{3}, []int{1, 2}, 3, []int{1, 2, 3, 4}, 4, 2, [2]int{35, 12}, [2]int{5, 12}}},
		{"BabDA", 4, 1, played{[]int{4}, nil, 0, []int{2, 3}, 3, 1, [2]int{2, 1}, [2]int{2, 3}}},
		{"BabDA", 4, 4, played{nil, []int{4}, 2, []int{1, 2, 4}, 3, 2, [2]int{7, 3}, [2]int{1, 3}}},
		{"faEAe", 6, 0, played{[]int{2, 3, 4}, []int{1, 5}, 3, []int{1, 2, 3, 4, 5, 6}, 6, 2, [2]int{49, 12}, [2]int{9, 20}}},
		{"faEAe", 6, 12, played{[]int{2}, []int{1, 5}, 3, []int{1, 2, 5, 6}, 4, 2, [2]int{35, 12}, [2]int{5, 12}}},
		{"EDebd", 5, 0, played{nil, []int{2}, 2, []int{1, 2, 3, 4, 5}, 5, 2, [2]int{7, 2}, [2]int{1, 2}}},
		{"abcdBADCefcdabDCBAFE", 6, 0, played{nil, []int{1, 2, 3, 4, 5, 6}, 1, []int{1, 2, 3, 4, 5, 6}, 4, 2, [2]int{16, 5}, [2]int{2, 5}}},
		{"abcdeCBAED", 5, 0, played{[]int{1, 2, 3}, []int{1, 2, 3, 4, 5}, 1, []int{1, 2, 3, 4, 5}, 4, 2, [2]int{7, 2}, [2]int{3, 10}}},
		{"abcdeCBAED", 6, 0, played{nil, nil, 0, []int{1, 2, 3, 4, 5, 6}, 5, 2, [2]int{49, 12}, [2]int{7, 12}}},
		{"bcdefaFEDCBA", 6, 0, played{[]int{1}, nil, 0, []int{2, 3, 4, 5, 6}, 5, 1, [2]int{10, 3}, [2]int{2, 3}}},
		{"aBAcbdCD", 4, 0, played{nil, nil, 0, []int{1, 2, 3, 4}, 3, 2, [2]int{5, 2}, [2]int{1, 2}}},
	}
}

func TestGamesKnown(t *testing.T) {
	for _, c := range gameCases() {
		w := wordOf(c.text)
		checkPosition(t, w, c.n, c.set, &c.played)
		checkPosition(t, opposite(w), c.n, c.set, &c.played)
		// The same word, with letters that vanish within it, those of other nails among them.
		checkPosition(t, joined([]int{6, -6}, w[:1], []int{-5, 4, -4, 5}, w[1:], []int{2, -2}), c.n, c.set, &c.played)
	}
}

// checkPositions checks all positions of a word, those that are ended or not valid among them,
// and returns what is told of them.
func checkPositions(t *testing.T, w []int, n int) *positions {
	t.Helper()
	all := wantPositions(wantFalls(w), n)
	for set, want := range all {
		checkPosition(t, w, n, set, want)
	}
	for _, drop := range []bool{true, false} {
		got, ok := impl.LosingSets(w, n, drop)
		if all[0] == nil {
			wantNone(t, got, ok, "LosingSets", w, n, drop)
		} else {
			wantWord(t, got, ok, all.losing(drop), "LosingSets", w, n, drop)
		}
	}
	return all
}

func TestGamesOfAllRulesOfFourNails(t *testing.T) {
	numbers := [5]int{}
	for i, w := range ruleWords(t) {
		for _, p := range checkPositions(t, w, 4+i%3) {
			if p != nil {
				numbers[p.number]++
			}
		}
	}
	for number, count := range numbers[:4] {
		if count < 10 {
			t.Errorf("%d positions with the number %d", count, number)
		}
	}
}

func TestGamesOfManyWords(t *testing.T) {
	for i, w := range fallWords() {
		checkPositions(t, w, 1+i%3)
		if i%7 == 0 {
			checkPositions(t, w, 4+i%3)
		}
	}
}

// The number of a position can be more than 3, if it has six nails.
func TestKeepNumbersOfSixNails(t *testing.T) {
	w := wordOf("bcadCBDAbeadbcDACBEBcdeabfEDCFBAbebcadCBDAEBadbcDACBabfcdeFBAEDC")
	all := []int{1, 2, 3, 4, 5, 6}
	checkPosition(t, w, 6, 0, &played{[]int{6}, []int{4}, 4, all, 5, 2, [2]int{193, 60}, [2]int{31, 60}})
	checkPositions(t, w, 6)
}

// A move wins exactly if it ends the game to drop, or leads to where the other player loses;
// in the game to keep, the word still hangs.
func TestMovesThatWinLeadToLosing(t *testing.T) {
	for i, w := range ruleWords(t) {
		n := 4 + i%3
		dropLost, _ := impl.LosingSets(w, n, true)
		keepLost, _ := impl.LosingSets(w, n, false)
		for set := range subsetsOf(n) {
			drop, ok := impl.DropMoves(w, n, set)
			if !ok {
				continue
			}
			keep, _ := impl.KeepMoves(w, n, set)
			for nail := 1; nail <= n; nail++ {
				in, behind := !inSet(nail, set), set|oneNail(nail)
				falls, _ := impl.DoesFall(w, behind)
				if won := in && (falls || slices.Contains(dropLost, behind)); won != slices.Contains(drop, nail) {
					t.Errorf("DropMoves(%v, %d, %d) = %v, with %v", w, n, set, drop, dropLost)
				}
				if won := in && slices.Contains(keepLost, behind); won != slices.Contains(keep, nail) {
					t.Errorf("KeepMoves(%v, %d, %d) = %v, with %v", w, n, set, keep, keepLost)
				}
			}
		}
	}
}

// Promise 9: who wins is told by moves that win, and the number of a position tells it too.
func TestWhoWinsIsToldByMoves(t *testing.T) {
	met := [2][2]int{}
	for i, w := range append(ruleWords(t), windingWords()...) {
		n := 1 + i%6
		for set := range subsetsOf(n) {
			canDrop, ok := impl.CanDrop(w, n, set)
			drop, dropOk := impl.DropMoves(w, n, set)
			canKeep, keepOk := impl.CanKeep(w, n, set)
			keep, movesOk := impl.KeepMoves(w, n, set)
			number, numberOk := impl.KeepNumber(w, n, set)
			if ok != dropOk || ok != keepOk || ok != movesOk || ok != numberOk {
				t.Errorf("%v, %d, %d: %v, %v, %v, %v, %v", w, n, set, ok, dropOk, keepOk, movesOk, numberOk)
			}
			if canDrop != (len(drop) > 0) || canKeep != (len(keep) > 0) || canKeep != (number > 0) {
				t.Errorf("%v, %d, %d: drop %v, %v, keep %v, %v, %d", w, n, set, canDrop, drop, canKeep, keep, number)
			}
			if ok {
				met[one(canDrop)][one(canKeep)]++
			}
		}
	}
	for _, counts := range met {
		if min(counts[0], counts[1]) < 10 {
			t.Errorf("positions met: %v", met)
		}
	}
}

func one(is bool) int {
	if is {
		return 1
	}
	return 0
}
