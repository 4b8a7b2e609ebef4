package tests

import (
	"slices"
	"testing"

	"loop.example/g01206/impl"
)

func TestBuildingRefusesWhatIsNoWord(t *testing.T) {
	refuseNoWords(t, []wordCall{trimWordCall()}, nil)
	refuseNoWords(t, joinCalls(), wordsOfAllKinds()...)
	refuseNoWords(t, exchanged(joinCalls()), wordsOfAllKinds()...)
	refuseNoWords(t, []wordCall{isWordForCall()}, familiesOfAllKinds()...)
}

func TestBuildingRefusesWhatIsNoFamily(t *testing.T) {
	refuseNoFamilies(t, buildCalls(), nil)
	refuseNoFamilies(t, exchanged([]wordCall{isWordForCall()}), wordsOfAllKinds()...)
	refuseNoFamilies(t, exchanged([]wordCall{isWordForCall()}), []int{}, []int{1, 2, -1, -2}, []int{1, 2, 3, 4, 5, 6})
}

// Beside words and Families that are valid, functions fail only as they are told to.
func TestBuildingTakesAllThatIsValid(t *testing.T) {
	for _, w := range wordsThatMayBeAnything() {
		if _, ok := impl.TrimWord(w); !ok {
			t.Errorf("TrimWord(%v) failed", w)
		}
		for _, sets := range knownFamilies() {
			if _, ok := impl.IsWordFor(w, family(sets...)); !ok {
				t.Errorf("IsWordFor(%v, %v) failed", w, sets)
			}
		}
	}
	refuse(t, nil, buildCalls()...)
	refuse(t, []int{}, buildCalls()...)
}

// buildingCalls are all functions of chapter 6 that have a list, or the Sets of a Family.
func buildingCalls() []wordCall {
	return append(append(joinCalls(), buildCalls()...), trimWordCall(), isWordForCall())
}

func TestBuildingTakesNilAsEmpty(t *testing.T) {
	takeNilAsEmpty(t, buildingCalls())
}

func TestBuildingLeavesArgumentsAlone(t *testing.T) {
	pairs := wordPairs()
	for _, w := range [][]int{nil, {1}, {1, 2, -1, -2}, {2, 1, -2, -1}, {1, 2, -2, 1}, {3, 3}, {0}, {1, 2, 3}, repeated(1, 16)} {
		for _, v := range [][]int{
			nil, {0}, {1}, {2}, {1, 2}, {1, 2, 4}, {3, 5, 6}, {1, 2, -1, -2}, repeated(2, 16), {6, 9}, {7, 8, 16}, {3, 5, 24},
			{1, 2, 4, 8, 16, 32}, {1, 3}, {3, 64}, {-1}, {2, 1},
		} {
			pairs = append(pairs, [2][]int{w, v}, [2][]int{v, w})
		}
	}
	leaveAlone(t, buildingCalls(), pairs)
}

func TestBuildingTakesSharedMemory(t *testing.T) {
	calls := append(joinCalls(), isWordForCall())
	takeSharedMemory(t, calls, []int{1, 2, -2, 3, -1, 4, 4})
	takeSharedMemory(t, calls, []int{1, 2, -1, -2, 1, 2, -1})
	takeSharedMemory(t, calls, []int{1, 2, -1, 3, 5, 6, 8})
	takeSharedMemory(t, calls, []int{3, 5, 6, 1, 2, -1, 4})
}

// What is built stays when the words and Sets of which it was built are changed behind the call.
func TestAnswersStayWhenWhatTheyAreBuiltOfIsChanged(t *testing.T) {
	u, v, w, f := []int{1}, []int{2}, []int{1, 2, 1}, family(1, 2)
	none, a := []int{}, []int{1}
	or, _, _ := impl.OrWord(u, v)
	and, _, _ := impl.AndWord(u, v)
	left, _, _ := impl.AndWord(u, none)
	right, _, _ := impl.AndWord(none, v)
	twice, _, _ := impl.AndWord(u, u)
	whole, _ := impl.BuildWord(f)
	halves, _ := impl.BuildHalves(f)
	least, _ := impl.BuildShort(f)
	trimmed, _ := impl.TrimWord(w)
	same, _ := impl.TrimWord(a)
	for _, list := range [][]int{u, v, w, a, f.Sets} {
		spoil(list)
	}
	both := []int{1, 2, -1, -2}
	for _, pair := range [][2][]int{
		{or, both}, {and, {1, 2}}, {left, {1}}, {right, {2}}, {twice, {1, 1}}, {whole, both}, {halves, both}, {least, both},
		{trimmed, {2, 1}}, {same, {1}},
	} {
		if !slices.Equal(pair[0], pair[1]) {
			t.Errorf("%v, not %v", pair[0], pair[1])
		}
	}
}

// A change of an answer changes no later one, also where there is a number alone as argument.
func TestKeysAndSetWordsAreTheirOwn(t *testing.T) {
	for set := range 64 {
		first, _ := impl.SetWord(set)
		spoil(first)
		again, ok := impl.SetWord(set)
		wantWord(t, again, ok, wantSetWord(set), "SetWord", set)
	}
	for k, want := range wantKeys() {
		first, _ := impl.KeyAt(k)
		spoil(first)
		again, ok := impl.KeyAt(k)
		wantWord(t, again, ok, want, "KeyAt", k)
	}
	// Nor those that other functions make of keys.
	or, k, ok := impl.OrWord([]int{1, 2, -1, -2}, []int{1, 2, -1, -2})
	checkKeyed(t, keyed{or, k, ok}, keyed{wordOf("abABaabABAbaaBAA"), 1, true}, "OrWord", "abAB", "abAB")
}
