package tests

import (
	"math"
	"strconv"

	"loop.example/g01206/impl"
)

// inSet reports whether a set has a nail; the number is halved until its digit is the last one.
func inSet(nail int, set int) bool {
	for range nail - 1 {
		set /= 2
	}
	return set%2 == 1
}

// isPart reports whether a set has all nails of a part.
func isPart(part int, set int) bool {
	return part|set == set
}

// wantSize counts the nails of a set.
func wantSize(set int) int {
	size := 0
	for nail := 1; nail <= 6; nail++ {
		if inSet(nail, set) {
			size++
		}
	}
	return size
}

// wantLeft is what is left of a word, by the document's definition.
func wantLeft(w []int, set int) []int {
	rest := []int{}
	for _, letter := range w {
		if !inSet(max(letter, -letter), set) {
			rest = append(rest, letter)
		}
	}
	return wantReduced(rest)
}

// wantFalls tells for each set whether a word falls for it.
func wantFalls(w []int) [64]bool {
	falls := [64]bool{}
	for set := range falls {
		falls[set] = len(wantLeft(w, set)) == 0
	}
	return falls
}

// commutator is the product of two words and their inverses.
func commutator(u []int, v []int) []int {
	return wantReduced(joined(u, v, opposite(u), opposite(v)))
}

// anyOf is a word that falls for any one of the nails from..to.
func anyOf(from int, to int) []int {
	if from == to {
		return []int{from}
	}
	half := (from + to) / 2
	return commutator(anyOf(from, half), anyOf(half+1, to))
}

// twoOfThree is a word that falls for any two of three nails.
func twoOfThree(a int, b int, c int) []int {
	return joined(commutator([]int{a}, []int{b}), commutator([]int{a}, []int{c}), commutator([]int{b}, []int{c}))
}

// edgeCase is a word and what the document tells of the sets for which it falls.
type edgeCase struct {
	w        []int
	least    []int
	greatest []int
	size     int
	fewest   int
	matter   int
	hidden   int
}

// edgeCases were worked out by hand.
func edgeCases() []edgeCase {
	return []edgeCase{
		{nil, []int{0}, nil, 0, 0, 0, 0},
		{[]int{1, -1}, []int{0}, nil, 0, 0, 0, 0},
		{[]int{6, 2, -3, 3, -2, -6}, []int{0}, nil, 0, 0, 0, 0},
		{[]int{1}, []int{1}, []int{62}, 1, 1, 1, 0},
		{[]int{-6}, []int{32}, []int{31}, 1, 32, 32, 0},
		{repeated(-4, 64), []int{8}, []int{55}, 1, 8, 8, 0},
		{[]int{1, 2, 3}, []int{7}, []int{59, 61, 62}, 3, 7, 7, 0},
		{[]int{6, 5, 4, 3, 2, 1}, []int{63}, []int{31, 47, 55, 59, 61, 62}, 6, 63, 63, 0},
		{commutator([]int{1}, []int{2}), []int{1, 2}, []int{60}, 1, 1, 3, 0},
		{commutator([]int{6}, []int{3}), []int{4, 32}, []int{27}, 1, 4, 36, 0},
		{commutator([]int{1}, []int{2, 3}), []int{1, 6}, []int{58, 60}, 1, 1, 7, 0},
		{commutator([]int{1, 2}, []int{3}), []int{3, 4}, []int{57, 58}, 1, 4, 7, 0},
		{commutator([]int{1, 2, 3}, []int{4, 5}), []int{7, 24}, []int{43, 45, 46, 51, 53, 54}, 2, 24, 31, 0},
		{commutator([]int{2, 3, 4, 5, 6}, []int{1}), []int{1, 62}, []int{30, 46, 54, 58, 60}, 1, 1, 63, 0},
		{commutator(commutator([]int{1, 2}, []int{3, 4}), []int{5, 6}), []int{3, 12, 48},
			[]int{21, 22, 25, 26, 37, 38, 41, 42}, 2, 3, 63, 0},
		{anyOf(1, 3), []int{1, 2, 4}, []int{56}, 1, 1, 7, 0},
		{anyOf(1, 6), []int{1, 2, 4, 8, 16, 32}, []int{0}, 1, 1, 63, 0},
		{twoOfThree(1, 2, 3), []int{3, 5, 6}, []int{57, 58, 60}, 2, 3, 7, 0},
		{twoOfThree(6, 4, 5), []int{24, 40, 48}, []int{15, 23, 39}, 2, 24, 56, 0},
		// What is hidden stands at both ends, or keeps two letters apart, or both.
		{[]int{3, 1, -3}, []int{1}, []int{62}, 1, 1, 1, 4},
		{[]int{1, 2, 1, -2}, []int{1}, []int{62}, 1, 1, 1, 2},
		{[]int{6, 1, -5, 1, -4, 4, 5, -6}, []int{1}, []int{62}, 1, 1, 1, 48},
		{joined([]int{4}, commutator([]int{1}, []int{2, 3}), []int{-4}), []int{1, 6}, []int{58, 60}, 1, 1, 7, 8},
		{joined([]int{5, -5, 3}, anyOf(1, 2), []int{-3, 6, -6}), []int{1, 2}, []int{60}, 1, 1, 3, 4},
		// Both words of this commutator have the nail 1, but the nail 2 alone holds them apart.
		{commutator([]int{1}, []int{2, 1, -2}), []int{1, 2}, []int{60}, 1, 1, 3, 0},
	}
}

// fallWords are the words that tests of all functions of chapter 3 share: short and varied ones
// and those of the edge cases, which hang by few nails of several.
func fallWords() [][]int {
	words := append(shortWords(2, 4), variedWords()...)
	for _, c := range edgeCases() {
		words = append(words, c.w, opposite(c.w))
		if conjugate := joined([]int{6, -2}, c.w, []int{2, -6}); len(conjugate) <= impl.MaxWord {
			words = append(words, conjugate)
		}
	}
	return append(words, shortWords(3, 3)...)
}

// noSets are numbers that tell no set.
func noSets() []int {
	sets := []int{-1, -2, -63, -64, 64, 65, 127, 128, math.MaxInt, math.MinInt, math.MinInt + 1, math.MaxInt - 63}
	return append(sets, 1<<32, 1<<32+1, -1<<32, 1<<62, -1<<62)
}

// noNails are numbers that are no nails.
func noNails() []int {
	nails := []int{0, 7, 8, -1, -2, -6, -7, 63, 64, 65, -63, math.MaxInt, math.MinInt, math.MinInt + 1}
	return append(nails, 1<<32, 1<<32+1, -1<<32+1, 257, 1<<62+1)
}

// nailLists are lists of valid nails, some of them more than once.
func nailLists() [][]int {
	lists := [][]int{
		nil, {}, {1, 1}, {1, 1, 2}, {2, 2, 1, 1}, {3, 3, 2, 1}, {6, 5, 4, 3, 2, 1}, {1, 2, 3, 4, 5, 6}, {4, 3, 4, 1},
		{5, 6, 1, 4, 2, 3}, {3, 2}, {2, 3}, {1, 3}, {3, 1}, {4, 5, 6}, {5, 5, 5, 4, 5, 4, 3, 1}, {2, 4, 6, 1, 3},
		joined(repeated(6, 100), []int{1}, repeated(5, 200)), joined(repeated(6, 300), []int{1, 2, 3, 4, 5}),
	}
	for nail := 1; nail <= 6; nail++ {
		lists = append(lists, []int{nail}, repeated(nail, 70))
	}
	return lists
}

// fallCalls are the functions of one word of chapter 3, some with numbers that are valid.
func fallCalls() []wordCall {
	calls := []wordCall{
		{"FallTable", func(u, _ []int) outcome { a, ok := impl.FallTable(u); return outcomeOf(a, ok) }},
		{"LettersLeft", func(u, _ []int) outcome { a, ok := impl.LettersLeft(u); return outcomeOf(a, ok) }},
		{"LeastFalls", func(u, _ []int) outcome { a, ok := impl.LeastFalls(u); return outcomeOf(a, ok) }},
		{"FewestNails", func(u, _ []int) outcome { a, b, ok := impl.FewestNails(u); return outcomeOf(a, b, ok) }},
		{"GreatestHangs", func(u, _ []int) outcome { a, ok := impl.GreatestHangs(u); return outcomeOf(a, ok) }},
		{"MatteringNails", func(u, _ []int) outcome { a, ok := impl.MatteringNails(u); return outcomeOf(a, ok) }},
	}
	for _, set := range []int{0, 1, 6, 63} {
		calls = append(calls, takeOutCall(set), doesFallCall(set))
	}
	for nail := 1; nail <= 6; nail++ {
		calls = append(calls, hangsByCall(nail), hidesNailCall(nail))
	}
	return calls
}

func takeOutCall(set int) wordCall {
	return wordCall{"TakeOut " + strconv.Itoa(set), func(u, _ []int) outcome {
		a, ok := impl.TakeOut(u, set)
		return outcomeOf(a, ok)
	}}
}

func doesFallCall(set int) wordCall {
	return wordCall{"DoesFall " + strconv.Itoa(set), func(u, _ []int) outcome {
		a, ok := impl.DoesFall(u, set)
		return outcomeOf(a, ok)
	}}
}

func hangsByCall(n int) wordCall {
	return wordCall{"HangsBy " + strconv.Itoa(n), func(u, _ []int) outcome {
		a, ok := impl.HangsBy(u, n)
		return outcomeOf(a, ok)
	}}
}

func hidesNailCall(n int) wordCall {
	return wordCall{"HidesNail " + strconv.Itoa(n), func(u, _ []int) outcome {
		a, ok := impl.HidesNail(u, n)
		return outcomeOf(a, ok)
	}}
}

func fallAlikeCall() wordCall {
	return wordCall{"FallAlike", func(u, v []int) outcome { a, ok := impl.FallAlike(u, v); return outcomeOf(a, ok) }}
}

// fallOrderCall takes its second list as the nails.
func fallOrderCall() wordCall {
	return wordCall{"FallOrder", func(u, v []int) outcome { a, ok := impl.FallOrder(u, v); return outcomeOf(a, ok) }}
}
