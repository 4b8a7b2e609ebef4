package tests

import (
	"slices"
	"testing"

	"loop.example/g01206/impl"
)

// checkWords checks a list of words.
func checkWords(t *testing.T, got [][]int, ok bool, want [][]int, call ...any) {
	t.Helper()
	if !ok || len(got) != len(want) {
		t.Errorf("%v: %d words, %v, not %d", call, len(got), ok, len(want))
		return
	}
	for i, w := range want {
		if !slices.Equal(got[i], w) {
			t.Errorf("%v: %v at the place %d, not %v", call, got[i], i, w)
		}
	}
}

func TestWordsOfKnown(t *testing.T) {
	known := []struct {
		n, length int
		words     []string
	}{
		{1, 0, []string{""}}, {2, 0, []string{""}}, {3, 0, []string{""}},
		{1, 1, []string{"a", "A"}}, {2, 1, []string{"a", "A", "b", "B"}}, {3, 1, []string{"a", "A", "b", "B", "c", "C"}},
		{1, 2, []string{"aa", "AA"}}, {1, 8, []string{"aaaaaaaa", "AAAAAAAA"}},
		{2, 2, []string{"aa", "ab", "aB", "AA", "Ab", "AB", "ba", "bA", "bb", "Ba", "BA", "BB"}},
	}
	for _, k := range known {
		want := [][]int{}
		for _, text := range k.words {
			want = append(want, wordOf(text))
		}
		got, ok := impl.WordsOf(k.n, k.length)
		checkWords(t, got, ok, want, "WordsOf", k.n, k.length)
	}
}

// Of all lists of letters, those that are reduced are there, each once and in order.
func TestWordsOfAllLengths(t *testing.T) {
	for n := 1; n <= impl.MaxListed; n++ {
		words := reducedWords(n, searchBounds()[n])
		for length := range searchBounds()[n] + 1 {
			got, ok := impl.WordsOf(n, length)
			checkWords(t, got, ok, ofLength(words, length), "WordsOf", n, length)
			count, fine := impl.CountReduced(n, length)
			if !fine || count != len(got) {
				t.Errorf("WordsOf(%d, %d) are %d, CountReduced is %d", n, length, len(got), count)
			}
			for i, w := range got {
				if less, ok := impl.LessWord(got[max(i-1, 0)], w); !ok || less != (i > 0) {
					t.Errorf("WordsOf(%d, %d): %v behind %v", n, length, w, got[max(i-1, 0)])
				}
			}
		}
	}
}

// Words of a length have the ranks from that of the first one on.
func TestWordsOfHaveTheirRanks(t *testing.T) {
	for n := 1; n <= impl.MaxListed; n++ {
		rank := 0
		for length := range searchBounds()[n] + 1 {
			words, _ := impl.WordsOf(n, length)
			for _, w := range words {
				checkRanked(t, w, n, rank)
				rank++
			}
		}
	}
}

func TestGreatestListsOfWords(t *testing.T) {
	for n, want := range []int{0, 2, 8748, 3750} {
		if n == 0 {
			continue
		}
		size := searchBounds()[n]
		words, ok := impl.WordsOf(n, size)
		if !ok || len(words) != want || !slices.Equal(words[0], repeated(1, size)) || !slices.Equal(words[want-1], repeated(-n, size)) {
			t.Errorf("WordsOf(%d, %d): %d words, %v", n, size, len(words), ok)
		}
	}
}

func TestCountClassesKnown(t *testing.T) {
	known := [][]int{
		nil, {1, 2, 2, 2, 2, 2, 2, 2, 2}, {1, 4, 8, 12, 26, 52, 132, 316, 836}, {1, 6, 18, 46, 168, 630},
	}
	for n, counts := range known {
		for length, want := range counts {
			got, ok := impl.CountClasses(n, length)
			checkNumber(t, got, ok, want, "CountClasses", n, length)
		}
	}
}

// turnsOf are all words to which a word can be turned.
func turnsOf(w []int) [][]int {
	turns := [][]int{}
	for k := range w {
		turns = append(turns, joined(w[k:], w[:k]))
	}
	return turns
}

// Each class is counted when its first word is met: all other words of it are those turned.
func TestCountClassesCountsEachOnce(t *testing.T) {
	for n := 1; n <= impl.MaxListed; n++ {
		words := reducedWords(n, searchBounds()[n])
		for length := range searchBounds()[n] + 1 {
			met, classes, own := map[string]bool{}, 0, 0
			for _, w := range ofLength(words, length) {
				if least, ok := impl.LeastTurn(w); ok && slices.Equal(least, w) {
					own++
				}
				if !isCyclic(w) || met[orderText(w)] {
					continue
				}
				classes++
				for _, turn := range turnsOf(w) {
					met[orderText(turn)] = true
				}
			}
			got, ok := impl.CountClasses(n, length)
			checkNumber(t, got, ok, classes, "CountClasses", n, length)
			checkNumber(t, own, ok, classes, "words that are their own LeastTurn", n, length)
		}
	}
}

// searchedCalls are the functions of numbers alone that search.
func searchedCalls(n int, length int) map[string]outcome {
	words, ok := impl.WordsOf(n, length)
	classes, fine := impl.CountClasses(n, length)
	rules, told := impl.RulesOf(n, length)
	return map[string]outcome{
		"WordsOf":      outcomeOf(len(words), ok),
		"CountClasses": outcomeOf(classes, fine),
		"RulesOf":      outcomeOf(rules, told),
	}
}

// noSearches are numbers of nails and lengths of words that are not searched for.
func noSearches() [][2]int {
	pairs := [][2]int{}
	for _, n := range append(noFrom(1, impl.MaxListed), 0, 4, 5, 6, 7, -1) {
		for _, length := range append(noFrom(0, 8), -1, 0, 1, 2, 5, 6, 8, 9) {
			pairs = append(pairs, [2]int{n, length})
		}
	}
	for n := 1; n <= impl.MaxListed; n++ {
		for _, length := range append(noFrom(0, searchBounds()[n]), -1, searchBounds()[n]+1, 9, 16, impl.MaxWord) {
			pairs = append(pairs, [2]int{n, length})
		}
	}
	return pairs
}

func TestSearchesRefuseOtherNumbers(t *testing.T) {
	if impl.MaxListed != 3 || impl.MaxRank != 1000000000000 {
		t.Fatal("the bounds", impl.MaxListed, impl.MaxRank)
	}
	for _, pair := range noSearches() {
		for name, got := range searchedCalls(pair[0], pair[1]) {
			if !got.failed {
				t.Errorf("%s(%v) = %s", name, pair, got.text)
			}
		}
		for _, sets := range familiesOfAllKinds() {
			refuse(t, sets, countWithCall(pair[0], pair[1]))
		}
	}
	for n := 1; n <= impl.MaxListed; n++ {
		for _, length := range []int{0, searchBounds()[n]} {
			for name, got := range searchedCalls(n, length) {
				if got.failed {
					t.Errorf("%s(%d, %d) failed", name, n, length)
				}
			}
		}
	}
}
