package tests

import (
	"slices"
	"testing"

	"loop.example/g01206/impl"
)

// unreducedWords are words in which a letter is beside its opposite.
func unreducedWords() [][]int {
	words := [][]int{
		{1, -1}, {-1, 1}, {2, -2, 1}, {1, 2, -2}, {1, -1, 1}, {1, 2, -2, -1}, {3, 3, -3}, {6, -6}, {-6, 6, 1},
		slices.Repeat([]int{1, -1}, 32), joined(repeated(1, 63), []int{-1}), joined([]int{-1}, repeated(1, 63)),
		joined(repeated(1, 32), repeated(-1, 32)), joined(repeated(2, 9), repeated(-2, 4)),
	}
	for place := range impl.MaxWord - 1 {
		w := repeated(1, impl.MaxWord)
		w[place], w[place+1] = 2, -2
		words = append(words, w)
	}
	return words
}

func TestShortestRefusesWhatIsNoWord(t *testing.T) {
	for _, n := range append(noFrom(1, 6), 0, 1, 2, 3, 4, 5, 6, 7, -1) {
		refuseNoWords(t, rankedCalls(n), nil)
	}
}

func TestShortestRefusesWordsThatAreNotReduced(t *testing.T) {
	for _, w := range unreducedWords() {
		for n := 1; n <= 6; n++ {
			refuse(t, w, rankedCalls(n)...)
		}
	}
}

func TestShortestRefusesOtherLetters(t *testing.T) {
	for n := 1; n <= 5; n++ {
		for nail := n + 1; nail <= 6; nail++ {
			for _, w := range [][]int{
				{nail}, {-nail}, {1, nail}, {-nail, 1}, {1, nail, -1}, {1, -nail, 1}, repeated(nail, impl.MaxWord),
				// Without the other letters, these fall like words of the nails 1..n.
				{nail, 1, -nail}, {-nail, -1, nail}, {1, nail, 1, -nail}, {nail, 1, -nail, -1}, {nail, n, -nail},
				joined(repeated(-n, impl.MaxWord-1), []int{nail}), joined([]int{-nail}, repeated(-n, impl.MaxWord-1)),
			} {
				refuse(t, w, rankedCalls(n)...)
			}
		}
	}
}

func TestShortestRefusesOtherNumbersOfNails(t *testing.T) {
	for _, n := range append(noFrom(1, impl.MaxListed), 0, 7, -1, 4, 5, 6) {
		for _, w := range [][]int{nil, {1}, {-1}, {1, 2}, {1, 2, -1, -2}, {3}, {4}, {6, 5}, repeated(1, impl.MaxWord)} {
			refuse(t, w, shortestLikeCall(n))
		}
		for _, sets := range append(knownFamilies(), noFamilies()...) {
			refuse(t, sets, firstWithCall(n), countWithCall(n, 0), countWithCall(n, 1), countWithCall(n, 5))
		}
	}
}

// searchCalls are the functions of a Family, with numbers that are valid.
func searchCalls() []wordCall {
	calls := []wordCall{}
	for n := 1; n <= impl.MaxListed; n++ {
		calls = append(calls, firstWithCall(n))
		for _, length := range []int{0, 1, 2, 4} {
			calls = append(calls, countWithCall(n, length))
		}
	}
	return calls
}

func TestShortestRefusesWhatIsNoFamily(t *testing.T) {
	refuseNoFamilies(t, searchCalls(), nil)
	for n := 1; n <= impl.MaxListed; n++ {
		refuseNoFamilies(t, []wordCall{countWithCall(n, searchBounds()[n])}, nil)
	}
}

// Beside a valid Family and numbers in the bounds, CountWith does not fail, nor do RankWord and
// NextWord for reduced words that are short.
func TestShortestTakesAllThatIsValid(t *testing.T) {
	for _, sets := range knownFamilies() {
		for n := 1; n <= impl.MaxListed; n++ {
			for _, length := range []int{0, searchBounds()[n]} {
				if _, ok := impl.CountWith(family(sets...), n, length); !ok {
					t.Errorf("CountWith(%v, %d, %d) failed", sets, n, length)
				}
			}
		}
	}
	for n := 1; n <= 6; n++ {
		for _, w := range reducedWords(n, 2) {
			_, ranked := impl.RankWord(w, n)
			_, next := impl.NextWord(w, n)
			_, short := impl.ShortestLike(w, n)
			if !ranked || !next || short != (n <= impl.MaxListed) {
				t.Errorf("functions of %v and %d: %v, %v, %v", w, n, ranked, next, short)
			}
		}
	}
}

// shortestCalls are all functions of chapter 7 that have a list, or the Sets of a Family.
func shortestCalls() []wordCall {
	calls := searchCalls()
	for n := 1; n <= 6; n++ {
		calls = append(calls, rankedCalls(n)...)
	}
	return calls
}

func TestShortestTakesNilAsEmpty(t *testing.T) {
	takeNilAsEmpty(t, shortestCalls())
}

func TestShortestLeavesArgumentsAlone(t *testing.T) {
	pairs := wordPairs()
	for _, list := range [][]int{
		nil, {0}, {1}, {-1}, {2}, {1, 2}, {1, -2}, {-2, -2}, {3, 5}, {3, 5, 6}, {1, 2, 4, 8, 16, 32}, {1, 3}, {2, 1}, {63}, {3, 64},
		{1, 2, -1, -2}, {1, 2, 3, -2, -3}, {-3, -3, -3}, {1, -3, -3}, {-1, 2, 2}, repeated(-1, impl.MaxWord), repeated(-2, impl.MaxWord-1),
		repeated(-6, impl.MaxWord), repeated(2, impl.MaxWord), {3, 5, 24}, {1, 62}, {6, -5, 4}, {7},
	} {
		pairs = append(pairs, [2][]int{list, nil})
	}
	leaveAlone(t, shortestCalls(), pairs)
}

// What is told stays when the words and Sets of which it was told are changed behind the call.
func TestAnswersStayWhenWhatTheyAreLikeIsChanged(t *testing.T) {
	w, last, f := []int{1, 2, 3}, []int{-2, -2}, family(1, 2)
	next, _ := impl.NextWord(w, 3)
	turned, _ := impl.NextWord(w, 4)
	longer, _ := impl.NextWord(last, 2)
	like, _ := impl.ShortestLike(w, 3)
	first, _ := impl.FirstWith(f, 2)
	for _, list := range [][]int{w, last, f.Sets} {
		spoil(list)
	}
	for _, pair := range [][2][]int{
		{next, {1, 2, -3}}, {turned, {1, 2, -3}}, {longer, {1, 1, 1}}, {like, {1, 2, 3}}, {first, {1, 2, -1, -2}},
	} {
		if !slices.Equal(pair[0], pair[1]) {
			t.Errorf("%v, not %v", pair[0], pair[1])
		}
	}
}

// A change of one word, and of the room behind it, changes no other word of the answer, nor a
// later answer.
func TestListedWordsAreTheirOwn(t *testing.T) {
	for n := 1; n <= impl.MaxListed; n++ {
		for length := range searchBounds()[n] + 1 {
			words, _ := impl.WordsOf(n, length)
			kept := [][]int{}
			for _, w := range words {
				kept = append(kept, slices.Clone(w))
			}
			for i, w := range words {
				if !slices.Equal(w, kept[i]) {
					t.Fatalf("WordsOf(%d, %d): the word %d shares memory", n, length, i)
				}
				spoil(w)
			}
			// Again from the end on, as memory may be shared with the words ahead alone.
			again, ok := impl.WordsOf(n, length)
			checkWords(t, again, ok, kept, "WordsOf", n, length)
			for i, w := range slices.Backward(again) {
				if !slices.Equal(w, kept[i]) {
					t.Fatalf("WordsOf(%d, %d): the word %d shares memory", n, length, i)
				}
				spoil(w)
			}
			clear(again[:cap(again)])
			later, ok := impl.WordsOf(n, length)
			checkWords(t, later, ok, kept, "WordsOf", n, length)
		}
	}
}

// A change of an answer changes no later one, also where there are numbers alone as arguments.
func TestWordsAtRanksAreTheirOwn(t *testing.T) {
	for n := 1; n <= 6; n++ {
		for _, rank := range []int{0, 1, 2, 3, 5, 20, 100, 1000, impl.MaxRank} {
			first, fine := impl.WordAt(n, rank)
			kept := slices.Clone(first)
			spoil(first)
			second, ok := impl.WordAt(n, rank)
			if ok != fine || !slices.Equal(second, kept) {
				t.Errorf("WordAt(%d, %d) = %v, and then %v", n, rank, kept, second)
			}
		}
	}
	for n := 1; n <= impl.MaxListed; n++ {
		first, _ := impl.FirstWith(family(1), n)
		empty, _ := impl.FirstWith(family(0), n)
		like, _ := impl.ShortestLike([]int{-1, -1}, n)
		for _, w := range [][]int{first, empty, like} {
			spoil(w)
		}
		again, ok := impl.FirstWith(family(1), n)
		wantWord(t, again, ok, []int{1}, "FirstWith", 1, n)
		again, ok = impl.FirstWith(family(0), n)
		wantWord(t, again, ok, nil, "FirstWith", 0, n)
		again, ok = impl.ShortestLike([]int{-1, -1}, n)
		wantWord(t, again, ok, []int{1}, "ShortestLike", "AA", n)
	}
}
