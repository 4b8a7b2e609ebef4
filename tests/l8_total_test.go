package tests

import (
	"slices"
	"testing"

	"loop.example/g01206/impl"
)

func TestWindingsRefuseWhatIsNoWord(t *testing.T) {
	refuseNoWords(t, windingCalls(), nil)
	refuseNoWords(t, []wordCall{coefficientOfCall()}, rowsOfAllKinds()...)
	refuseNoWords(t, sameCalls(), wordsOfAllKinds()...)
	refuseNoWords(t, exchanged(sameCalls()), wordsOfAllKinds()...)
}

func TestCoefficientsRefuseOtherLists(t *testing.T) {
	for _, list := range noRows() {
		for _, w := range wordsOfAllKinds() {
			got, ok := impl.CoefficientOf(w, list)
			checkNoNumber(t, got, ok, "CoefficientOf", w, list)
		}
	}
}

func TestPairsRefuseOtherNails(t *testing.T) {
	for _, w := range [][]int{nil, {1}, {1, 2}, {-1, -2}, {1, 2, -1, -2}, {6, -6}, repeated(1, 64), {6, 1}, {7}, {0}, repeated(1, 65)} {
		for _, bad := range noNails() {
			for n := 1; n <= 6; n++ {
				refuse(t, w, pairCallsOf(bad, n)...)
				refuse(t, w, pairCallsOf(n, bad)...)
			}
			for _, other := range noNails() {
				refuse(t, w, pairCallsOf(bad, other)...)
			}
		}
	}
}

func TestSameToOrderRefusesOtherNumbers(t *testing.T) {
	for _, n := range append(noFrom(0, 3), -1, 4, 5, 6, 7, 64, 259) {
		for _, pair := range [][2][]int{{nil, nil}, {{1}, {1}}, {{1}, {2}}, {{1, -1}, nil}, {{7}, {1}}, {repeated(1, 64), repeated(1, 64)}, {{0}, {0}}} {
			got, ok := impl.SameToOrder(pair[0], pair[1], n)
			if ok || got {
				t.Errorf("SameToOrder(%v, %v, %d) = %v, %v", pair[0], pair[1], n, got, ok)
			}
		}
	}
}

// All that is valid is told of.
func TestWindingsTakeAllThatIsValid(t *testing.T) {
	for _, w := range [][]int{nil, {}, {6}, {-6}, {1, -1}, repeated(6, 64), slices.Repeat([]int{-1, 1}, 32)} {
		for _, c := range windingCalls() {
			if got := c.call(w, nil); got.failed && c.name != "FirstCoefficient" {
				t.Errorf("%s(%v) = %s", c.name, w, got.text)
			}
		}
		for _, list := range nailRows() {
			if _, ok := impl.CoefficientOf(w, list); !ok {
				t.Errorf("CoefficientOf(%v, %v) failed", w, list)
			}
		}
		for n := range 4 {
			if same, ok := impl.SameToOrder(w, w, n); !same || !ok {
				t.Errorf("SameToOrder(%v, .., %d) = %v, %v", w, n, same, ok)
			}
		}
	}
}

func TestWindingsTakeNilAsEmpty(t *testing.T) {
	takeNilAsEmpty(t, append(append(windingCalls(), coefficientOfCall()), sameCalls()...))
}

func TestWindingsLeaveArgumentsAlone(t *testing.T) {
	pairs := wordPairs()
	for _, w := range [][]int{
		nil, {1, -2}, {1, 2, -1, -2}, wordOf("abABcbaBAC"), wordOf("abABcdCDbaBAdcDC"), {-3, -3}, {2, -1, -1}, repeated(-6, 64), {0}, {7},
	} {
		for _, list := range [][]int{nil, {1}, {6}, {1, 2}, {2, 1}, {1, 1, 1}, {2, 1, 1}, {1, 2, 3}, {6, 6}, {1, 2, 3, 4}, {0}, {1, 7}, {-1}} {
			pairs = append(pairs, [2][]int{w, list}, [2][]int{list, w})
		}
	}
	leaveAlone(t, append(append(windingCalls(), coefficientOfCall()), sameCalls()...), pairs)
}

func TestWindingsTakeSharedMemory(t *testing.T) {
	calls := append(sameCalls(), coefficientOfCall())
	takeSharedMemory(t, calls, []int{1, 2, -2, 3, -1, 4, 4})
	takeSharedMemory(t, calls, []int{1, 2, 1, 2, 1, 2, 1})
	takeSharedMemory(t, calls, []int{-1, -1, 1, 1, 1, -2, 2})
}

// What is told of a word stays when this is changed behind the call.
func TestAnswersStayWhenTheirWordsAreChanged(t *testing.T) {
	w, list := []int{1, 2, -1, -2}, []int{2, 1, 1}
	windings, _ := impl.WindingsOf(w)
	first, coefficient, _ := impl.FirstCoefficient(w)
	counts, _ := impl.CountCoefficients(w)
	deep, _ := impl.CoefficientOf(w, list)
	text, _ := impl.WindingText(w[:1])
	spoil(w)
	spoil(list)
	if windings != [7]int{} || !slices.Equal(first, []int{1, 2}) || coefficient != 1 || counts != [4]int{1, 0, 2, 4} || deep != 1 || text != "a1" {
		t.Error("answers", windings, first, coefficient, counts, deep, text)
	}
}

// A change of a list changes no later answer of any function.
func TestFirstListsAreTheirOwn(t *testing.T) {
	for _, text := range []string{"a", "F", "abAB", "abABcbaBAC", "abABabaBAA", "", "aA", "abABcdCDbaBAdcDC"} {
		w := wordOf(text)
		first, coefficient, found := impl.FirstCoefficient(w)
		kept := slices.Clone(first)
		spoil(first)
		checkFirst(t, w, kept, coefficient, found)
		c := wantTold(w)
		checkTold(t, w, func(list []int) int { return *c.of(list) })
	}
}
