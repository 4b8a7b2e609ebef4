package tests

import (
	"slices"
	"strings"
	"testing"

	"loop.example/g01206/impl"
)

func TestCommutatorsRefuseWhatIsNoWord(t *testing.T) {
	refuseNoWords(t, []wordCall{commutatorOfCall()}, wordsOfAllKinds()...)
	refuseNoWords(t, exchanged([]wordCall{commutatorOfCall()}), wordsOfAllKinds()...)
	refuseNoWords(t, commutatorCalls(), nil)
	// Such as would be of Wicks' form, if they were words.
	form := rawCommutator(repeated(1, 16), repeated(2, 16))
	for _, w := range [][]int{
		joined([]int{3}, form, []int{-3}), joined(form, []int{3, -3}), rawCommutator([]int{1}, repeated(2, 32)),
		rawCommutator([]int{7}, []int{1}), rawCommutator([]int{1}, []int{-7}), {1, 0, 2, -1, -2},
	} {
		checkWicks(t, w, wicks{}, false)
	}
}

func TestCommutatorsTakeNilAsEmpty(t *testing.T) {
	takeNilAsEmpty(t, append(commutatorCalls(), commutatorOfCall()))
}

func TestCommutatorsLeaveArgumentsAlone(t *testing.T) {
	pairs := wordPairs()
	for _, w := range [][]int{
		{1, 2, 3, -1, -2, -3}, {1, 2, 3, -1, -1, -2, -3, 1}, {3, 1, 2, -2, 2, -1, -2, -3}, {2}, {5, 1, 3},
		{6, 2, 4, 3, 1}, {1, 2, 3, 4, 5, 6}, {4, 4}, {1, 7}, rawCommutator(repeated(1, 16), repeated(2, 16)),
		rawCommutator(repeated(1, 31), []int{4}),
	} {
		for _, v := range [][]int{nil, {1}, {2, 1, -2}, {4, -4}, {0}, repeated(1, impl.MaxWord)} {
			pairs = append(pairs, [2][]int{w, v}, [2][]int{v, w})
		}
	}
	leaveAlone(t, append(commutatorCalls(), commutatorOfCall()), pairs)
}

func TestCommutatorsTakeSharedMemory(t *testing.T) {
	takeSharedMemory(t, []wordCall{commutatorOfCall()}, []int{1, 2, -2, 3, -1, 4, 4})
	takeSharedMemory(t, []wordCall{commutatorOfCall()}, []int{1, 2, 1, 2, -1, -2, 1})
}

func TestValuesOfTreesAreTheirOwn(t *testing.T) {
	letters := strings.Repeat("a", impl.MaxWord)
	for _, s := range []string{
		"", "a", "aA", "abBc", "[a,b]", "[a,a]", "[a,[b,c]]", "[a", letters, "[" + letters + ",b]",
	} {
		first, fine := impl.TreeValue(s)
		kept := slices.Clone(first)
		spoil(first)
		second, ok := impl.TreeValue(s)
		if fine != ok || !slices.Equal(second, kept) {
			t.Errorf("TreeValue(%q) = %v, and then %v", s, kept, second)
		}
	}
}

func TestFunctionsOfTreesAnswerTheSameTwice(t *testing.T) {
	texts := noTrees()
	for _, b := range knownBushes() {
		texts = append(texts, b.text())
	}
	for _, s := range texts {
		first, second := treeOutcomes(s), treeOutcomes(s)
		for name, got := range first {
			if got.text != second[name].text {
				t.Errorf("%s(%q) = %s, and then %s", name, s, got.text, second[name].text)
			}
		}
	}
}

// What is told of words and nails stays when these are changed behind the call.
func TestAnswersStayWhenTheirListsAreChanged(t *testing.T) {
	u, v, nails := []int{1, 2}, []int{3}, []int{4, 5}
	product, _ := impl.CommutatorOf(u, v)
	left, _ := impl.LeftWord(nails)
	balanced, _ := impl.BalancedWord(nails)
	single, _ := impl.LeftWord(nails[:1])
	alone, _ := impl.BalancedWord(nails[1:])
	tree, _ := impl.BalancedTree(nails)
	w := []int{1, 2, 3, -1, -2, -3}
	a, b, c, _, _ := impl.WicksParts(w)
	for _, list := range [][]int{u, v, nails, w} {
		spoil(list)
	}
	for _, pair := range [][2][]int{
		{product, {1, 2, 3, -2, -1, -3}}, {left, {4, 5, -4, -5}}, {balanced, {4, 5, -4, -5}}, {single, {4}},
		{alone, {5}}, {a, {1}}, {b, {2}}, {c, {3}},
	} {
		if !slices.Equal(pair[0], pair[1]) {
			t.Errorf("%v, not %v", pair[0], pair[1])
		}
	}
	if tree != "[d,e]" {
		t.Error("BalancedTree", tree)
	}
}
