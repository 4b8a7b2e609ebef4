package tests

import (
	"slices"
	"testing"

	"loop.example/g01206/impl"
)

func TestFallingRefusesWhatIsNoWord(t *testing.T) {
	refuseNoWords(t, fallCalls(), nil)
	for _, set := range append(noSets(), 0, 63) {
		refuseNoWords(t, []wordCall{takeOutCall(set), doesFallCall(set)}, nil)
	}
	for _, n := range append(noNails(), 1, 6) {
		refuseNoWords(t, []wordCall{hangsByCall(n), hidesNailCall(n)}, nil)
	}
	refuseNoWords(t, []wordCall{fallAlikeCall()}, wordsOfAllKinds()...)
	refuseNoWords(t, exchanged([]wordCall{fallAlikeCall()}), wordsOfAllKinds()...)
	refuseNoWords(t, []wordCall{fallOrderCall()}, append(nailLists(), noNails())...)
}

// wordsThatMayBeAnything are words beside which only a number can be at fault.
func wordsThatMayBeAnything() [][]int {
	return [][]int{nil, {}, {1}, {-6}, {1, -1}, {1, 2, -1, -2}, {3, 1, -3}, anyOf(1, 6), repeated(1, impl.MaxWord)}
}

// refuse checks that functions fail for a word.
func refuse(t *testing.T, w []int, calls ...wordCall) {
	t.Helper()
	for _, c := range calls {
		if got := c.call(w, nil); !got.failed {
			t.Errorf("%s of %v = %s", c.name, w, got.text)
		}
	}
}

func TestFallingRefusesWhatIsNoSet(t *testing.T) {
	for _, w := range wordsThatMayBeAnything() {
		for _, set := range noSets() {
			refuse(t, w, takeOutCall(set), doesFallCall(set))
		}
		for set := range 64 {
			if _, ok := impl.TakeOut(w, set); !ok {
				t.Errorf("TakeOut(%v, %d) failed", w, set)
			}
			if _, ok := impl.DoesFall(w, set); !ok {
				t.Errorf("DoesFall(%v, %d) failed", w, set)
			}
		}
	}
}

func TestFallingRefusesWhatIsNoNail(t *testing.T) {
	for _, w := range wordsThatMayBeAnything() {
		for _, n := range noNails() {
			refuse(t, w, hangsByCall(n), hidesNailCall(n))
		}
		for n := 1; n <= 6; n++ {
			if _, ok := impl.HidesNail(w, n); !ok {
				t.Errorf("HidesNail(%v, %d) failed", w, n)
			}
		}
	}
}

func TestFallingTakesNilAsEmpty(t *testing.T) {
	takeNilAsEmpty(t, append(fallCalls(), fallAlikeCall(), fallOrderCall()))
}

func TestFallingLeavesArgumentsAlone(t *testing.T) {
	pairs := wordPairs()
	for _, c := range edgeCases() {
		for _, list := range [][]int{nil, {1}, {3, 2, 1}, {6, 5, 4, 3, 2, 1}, {2, 2, 3, 4, 5, 6, 1}, {1, 0}, {7, 1}} {
			pairs = append(pairs, [2][]int{c.w, list})
		}
	}
	leaveAlone(t, append(fallCalls(), fallAlikeCall(), fallOrderCall()), pairs)
}

func TestFallingTakesSharedMemory(t *testing.T) {
	calls := []wordCall{fallAlikeCall(), fallOrderCall()}
	takeSharedMemory(t, calls, []int{1, 2, -2, 3, -1, 4, 4})
	takeSharedMemory(t, calls, []int{3, 1, 2, 6, 5, 4, 4})
}

// What is told of a word stays when the word that it was told of is changed behind the call.
func TestAnswersStayWhenTheirWordIsChanged(t *testing.T) {
	w := []int{1, 2, -1, -2}
	left, _ := impl.TakeOut(w, 0)
	table, _ := impl.FallTable(w)
	letters, _ := impl.LettersLeft(w)
	least, _ := impl.LeastFalls(w)
	greatest, _ := impl.GreatestHangs(w)
	spoil(w)
	again := []int{1, 2, -1, -2}
	if newTable, ok := impl.FallTable(again); !ok || newTable != table || !table[1] || table[4] {
		t.Error("FallTable", table)
	}
	if newLetters, ok := impl.LettersLeft(again); !ok || newLetters != letters || letters[0] != 4 {
		t.Error("LettersLeft", letters)
	}
	if !slices.Equal(left, again) || !slices.Equal(least, []int{1, 2}) || !slices.Equal(greatest, []int{60}) {
		t.Error("lists", left, least, greatest)
	}
}

// A change of a table changes no later one: tables are told by value.
func TestTablesAreTheirOwn(t *testing.T) {
	for _, w := range [][]int{nil, {1}, {1, 2, -1, -2}} {
		table, _ := impl.FallTable(w)
		letters, _ := impl.LettersLeft(w)
		keptTable, keptLetters := table, letters
		for set := range table {
			table[set], letters[set] = !table[set], 99
		}
		newTable, _ := impl.FallTable(w)
		newLetters, _ := impl.LettersLeft(w)
		if newTable != keptTable || newLetters != keptLetters {
			t.Errorf("tables of %v changed", w)
		}
	}
}
