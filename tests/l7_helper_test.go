package tests

import (
	"math/big"
	"slices"
	"strconv"

	"loop.example/g01206/impl"
)

// searchBounds are, at the place n, the greatest lengths of words that are searched for.
func searchBounds() []int {
	return []int{-1, 8, 8, 5}
}

// power is a number, size times a factor.
func power(number int, size int) *big.Int {
	return new(big.Int).Exp(big.NewInt(int64(number)), big.NewInt(int64(size)), nil)
}

// wantCount is how many words there are of a length, of any size: behind each letter there can be
// all but its opposite.
func wantCount(n int, length int) *big.Int {
	if length == 0 {
		return big.NewInt(1)
	}
	count := power(2*n-1, length-1)
	return count.Mul(count, big.NewInt(int64(2*n)))
}

// wantCyclic is how many of them are cyclic, by the formula for closed walks from letter to letter.
func wantCyclic(n int, length int) *big.Int {
	if length == 0 {
		return big.NewInt(1)
	}
	extra := int64(2*n - 1)
	if length%2 == 1 {
		extra = 1
	}
	count := power(2*n-1, length)
	return count.Add(count, big.NewInt(extra))
}

// isRanked tells whether a number is one of those up to which ranks and counts are told.
func isRanked(number *big.Int) bool {
	return number.Cmp(big.NewInt(impl.MaxRank)) <= 0
}

// wantShorter is how many words are shorter than a length.
func wantShorter(n int, length int) *big.Int {
	sum := new(big.Int)
	for size := range length {
		sum.Add(sum, wantCount(n, size))
	}
	return sum
}

// choices are the letters that can be behind a word, in their order.
func choices(w []int, n int) []int {
	letters := []int{1, -1, 2, -2, 3, -3, 4, -4, 5, -5, 6, -6}[:2*n]
	if len(w) == 0 {
		return letters
	}
	place := slices.Index(letters, -w[len(w)-1])
	return joined(letters[:place], letters[place+1:])
}

// wantRank is the rank of a word, of any size: how many words are shorter, and for each letter
// how many begin like the word, but have a letter here that comes before its own.
func wantRank(w []int, n int) *big.Int {
	rank := wantShorter(n, len(w))
	for i, letter := range w {
		ahead := slices.Index(choices(w[:i], n), letter)
		block := power(2*n-1, len(w)-1-i)
		rank.Add(rank, block.Mul(block, big.NewInt(int64(ahead))))
	}
	return rank
}

// wantAt is the word with a rank, of any size: its length first, and then each letter.
func wantAt(n int, rank *big.Int) []int {
	rest := new(big.Int).Set(rank)
	length := 0
	for rest.Cmp(wantCount(n, length)) >= 0 {
		rest.Sub(rest, wantCount(n, length))
		length++
	}
	w := []int{}
	for len(w) < length {
		place := new(big.Int)
		place.DivMod(rest, power(2*n-1, length-1-len(w)), rest)
		w = append(w, choices(w, n)[place.Int64()])
	}
	return w
}

// wantNext is the word behind a word, of any length.
func wantNext(w []int, n int) []int {
	rank := wantRank(w, n)
	return wantAt(n, rank.Add(rank, big.NewInt(1)))
}

// reducedWords are the reduced words of all lists of letters of the nails 1..n, in their order.
func reducedWords(n int, size int) [][]int {
	words := [][]int{}
	for _, w := range shortWords(n, size) {
		if slices.Equal(wantReduced(w), w) {
			words = append(words, w)
		}
	}
	return words
}

// ofLength are those words of a list that have a length.
func ofLength(words [][]int, length int) [][]int {
	return slices.DeleteFunc(slices.Clone(words), func(w []int) bool { return len(w) != length })
}

// longWords are reduced words of the nails 1..n of all lengths, two of each.
func longWords(n int) [][]int {
	words := [][]int{}
	state := 777 + n
	for round := range 2 * (impl.MaxWord + 1) {
		w := []int{}
		for len(w) < round/2 {
			state = (state*1103515245 + 12345) % (1 << 31)
			letters := choices(w, n)
			w = append(w, letters[state>>16%len(letters)])
		}
		words = append(words, w)
	}
	return words
}

// rule tells for each set of the nails 1..n whether something falls for it.
type rule [8]bool

// wantRule is the rule of a word, by the document's definition.
func wantRule(w []int, n int) rule {
	r := rule{}
	for set := range subsetsOf(n) {
		r[set] = len(wantLeft(w, set)) == 0
	}
	return r
}

// ruleOfSets is the rule of the Family with these Sets.
func ruleOfSets(sets []int, n int) rule {
	r, members := rule{}, wantMembers(sets)
	for set := range subsetsOf(n) {
		r[set] = members[set]
	}
	return r
}

// firstWords are, for each rule that some of a list of words have, the first of these.
func firstWords(words [][]int, n int) map[rule][]int {
	firsts := map[rule][]int{}
	for _, w := range words {
		r := wantRule(w, n)
		if _, met := firsts[r]; !met {
			firsts[r] = w
		}
	}
	return firsts
}

// nailsOf is the set of the nails of a word.
func nailsOf(w []int) int {
	set := 0
	for _, letter := range w {
		set |= []int{0, 1, 2, 4, 8, 16, 32}[max(letter, -letter)]
	}
	return set
}

func rankWordCall(n int) wordCall {
	return wordCall{"RankWord " + strconv.Itoa(n), func(u, _ []int) outcome {
		a, ok := impl.RankWord(u, n)
		return outcomeOf(a, ok)
	}}
}

func nextWordCall(n int) wordCall {
	return wordCall{"NextWord " + strconv.Itoa(n), func(u, _ []int) outcome {
		a, ok := impl.NextWord(u, n)
		return outcomeOf(a, ok)
	}}
}

func shortestLikeCall(n int) wordCall {
	return wordCall{"ShortestLike " + strconv.Itoa(n), func(u, _ []int) outcome {
		a, ok := impl.ShortestLike(u, n)
		return outcomeOf(a, ok)
	}}
}

// firstWithCall and countWithCall take their list as the Sets.
func firstWithCall(n int) wordCall {
	return wordCall{"FirstWith " + strconv.Itoa(n), func(u, _ []int) outcome {
		a, ok := impl.FirstWith(family(u...), n)
		return outcomeOf(a, ok)
	}}
}

func countWithCall(n int, length int) wordCall {
	return wordCall{"CountWith " + strconv.Itoa(n) + " " + strconv.Itoa(length), func(u, _ []int) outcome {
		a, ok := impl.CountWith(family(u...), n, length)
		return outcomeOf(a, ok)
	}}
}

// rankedCalls are the functions of a word for a number of nails.
func rankedCalls(n int) []wordCall {
	return []wordCall{rankWordCall(n), nextWordCall(n), shortestLikeCall(n)}
}
