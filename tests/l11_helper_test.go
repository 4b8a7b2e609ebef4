package tests

import (
	"math"
	"slices"
	"strconv"
	"strings"
	"testing"

	"loop.example/g01206/impl"
)

// wantCuts are the cuts of a word, read off its text: one letter in both cases.
func wantCuts(w []int) []int {
	places := []int{}
	text := textOf(w)
	for i := 1; i < len(text); i++ {
		if text[i-1] != text[i] && strings.EqualFold(text[i-1:i], text[i:i+1]) {
			places = append(places, i-1)
		}
	}
	return places
}

// afterCut is a word without the letter at a place and the one behind it.
func afterCut(w []int, i int) []int {
	return joined(w[:i], w[i+2:])
}

// wantProof tells whether a list is a proof of a word, by the document's definition.
func wantProof(w []int, list []int) bool {
	for _, i := range list {
		if !slices.Contains(wantCuts(w), i) {
			return false
		}
		w = afterCut(w, i)
	}
	return len(w) == 0
}

// allProofs are all proofs of a word.
func allProofs(w []int) [][]int {
	if len(w) == 0 {
		return [][]int{{}}
	}
	proofs := [][]int{}
	for _, i := range wantCuts(w) {
		for _, rest := range allProofs(afterCut(w, i)) {
			proofs = append(proofs, joined([]int{i}, rest))
		}
	}
	return proofs
}

// readForward reads a word from its start on: a letter that is the opposite of the last one that
// stays is taken out with it, which is the first cut that there is then. It tells the cuts and the
// pairing.
func readForward(w []int) ([]int, []int) {
	cuts, pairing, stay := []int{}, repeated(-1, len(w)), []int{}
	for i, letter := range w {
		last := len(stay) - 1
		if last < 0 || w[stay[last]] != -letter {
			stay = append(stay, i)
			continue
		}
		cuts = append(cuts, last)
		pairing[i], pairing[stay[last]] = stay[last], i
		stay = stay[:last]
	}
	return cuts, pairing
}

// readBackward reads a word from its end on, where the letters ahead are all there yet: it tells
// the last cuts.
func readBackward(w []int) []int {
	cuts, stay := []int{}, []int{}
	for i, letter := range slices.Backward(w) {
		if len(stay) == 0 || stay[len(stay)-1] != -letter {
			stay = append(stay, letter)
			continue
		}
		cuts = append(cuts, i)
		stay = stay[:len(stay)-1]
	}
	return cuts
}

// wantPairing tells whether a list is a pairing of a word, by the document's definition.
func wantPairing(w []int, list []int) bool {
	if len(list) != len(w) {
		return false
	}
	pairs := [][2]int{}
	for i, partner := range list {
		if partner == -1 {
			continue
		}
		if partner < 0 || partner >= len(w) || list[partner] != i || w[partner]+w[i] != 0 {
			return false
		}
		pairs = append(pairs, [2]int{min(i, partner), max(i, partner)})
	}
	for _, p := range pairs {
		for _, q := range pairs {
			if isBetween(p, q[0]) != isBetween(p, q[1]) {
				return false
			}
		}
		if slices.Contains(list[p[0]+1:p[1]], -1) {
			return false
		}
	}
	return true
}

// isBetween tells whether a place is between those of a pair.
func isBetween(pair [2]int, place int) bool {
	return pair[0] < place && place < pair[1]
}

// wantPaired is the pairing by cuts: each letter keeps its place in the word.
func wantPaired(w []int, cuts []int) []int {
	pairing, places := repeated(-1, len(w)), []int{}
	for place := range w {
		places = append(places, place)
	}
	for _, i := range cuts {
		pairing[places[i]], pairing[places[i+1]] = places[i+1], places[i]
		places = afterCut(places, i)
	}
	return pairing
}

// leftBy are the letters without partners.
func leftBy(w []int, pairing []int) []int {
	left := []int{}
	for i, letter := range w {
		if pairing[i] == -1 {
			left = append(left, letter)
		}
	}
	return left
}

// fullPairings are all full pairings of a word: of all ways to put its letters into pairs of
// opposites, crossing or not, those that the document's definition allows.
func fullPairings(w []int) [][]int {
	all := [][]int{}
	for _, list := range matchings(w, repeated(-1, len(w))) {
		if wantPairing(w, list) {
			all = append(all, list)
		}
	}
	return all
}

// matchings are all ways to put the letters without partners into pairs of opposites.
func matchings(w []int, begun []int) [][]int {
	first := slices.Index(begun, -1)
	if first < 0 {
		return [][]int{begun}
	}
	all := [][]int{}
	for k := first + 1; k < len(w); k++ {
		if begun[k] == -1 && w[k] == -w[first] {
			next := slices.Clone(begun)
			next[first], next[k] = k, first
			all = append(all, matchings(w, next)...)
		}
	}
	return all
}

// pairingsByEnds counts full pairings of parts of a word, the short ones first, by the partner of
// the last letter of each.
func pairingsByEnds(w []int) int {
	counts := [65][65]int{}
	for end := range len(w) + 1 {
		counts[end][end] = 1
		for start := end - 1; start >= 0; start-- {
			for k := start; k < end-1; k++ {
				if w[k]+w[end-1] == 0 {
					counts[start][end] += counts[start][k] * counts[k+1][end-1]
				}
			}
		}
	}
	return counts[0][len(w)]
}

// proofsByPairings counts proofs by their pairings: a pair is cut behind all pairs between its
// letters, so that of all orders of the pairs, each pair divides the number by how many it has
// between its letters, itself included.
func proofsByPairings(w []int) int {
	sum := 0
	for _, list := range fullPairings(w) {
		orders, divisor := 1, 1
		for i, partner := range list {
			if i < partner {
				divisor *= (partner - i + 1) / 2
			}
		}
		for k := range len(w) / 2 {
			orders *= k + 1
		}
		sum += orders / divisor
	}
	return sum
}

// vanishingWords are words of all even lengths that are reduced to nothing: all short ones of few
// nails, in which letters have many partners, and others into which opposites are put beside each
// other, anywhere.
func vanishingWords() [][]int {
	words := [][]int{}
	state := 2718
	for round := range 4 * 33 {
		w := []int{}
		for range round % 33 {
			state = (state*1103515245 + 12345) % (1 << 31)
			letter, place := 1+state>>16%(1+round%6), (state>>8)%(len(w)+1)
			if state>>24&1 == 1 {
				letter = -letter
			}
			w = joined(w[:place], []int{letter, -letter}, w[place:])
		}
		words = append(words, w)
	}
	for _, w := range append(shortWords(2, 6), shortWords(1, 8)...) {
		if len(wantReduced(w)) == 0 {
			words = append(words, w)
		}
	}
	for half := range 33 {
		words = append(words, slices.Repeat([]int{1, -1}, half), joined(repeated(-3, half), repeated(3, half)), slices.Repeat([]int{2, -2, -2, 2}, half/2))
	}
	return words
}

// proofWords are the words that tests of all functions of chapter 11 share.
func proofWords() [][]int {
	words := append(knownWords(), vanishingWords()...)
	for _, w := range vanishingWords() {
		// With letters that stay, ahead, within and behind.
		if len(w) > 0 && len(w) < 62 {
			words = append(words, joined([]int{5}, w), joined(w, []int{-5, 6}), joined(w[:len(w)/2], []int{6}, w[len(w)/2:]), w[1:], w[:len(w)-1])
		}
	}
	return append(words, shortWords(3, 3)...)
}

// ofAtMost are those of a list of words that have at most size letters.
func ofAtMost(words [][]int, size int) [][]int {
	return slices.DeleteFunc(slices.Clone(words), func(w []int) bool { return len(w) > size })
}

// listsOf are all lists of at most size of some numbers.
func listsOf(numbers []int, size int) [][]int {
	lists := [][]int{{}}
	start := 0
	for range size {
		end := len(lists)
		for _, list := range lists[start:end] {
			for _, number := range numbers {
				lists = append(lists, joined(list, []int{number}))
			}
		}
		start = end
	}
	return lists
}

// numbersTo are the numbers from..to.
func numbersTo(from int, to int) []int {
	numbers := []int{}
	for number := from; number <= to; number++ {
		numbers = append(numbers, number)
	}
	return numbers
}

// changedLists are lists that differ from one in some way: an entry less or more at each end,
// two entries exchanged, and one entry that is another number.
func changedLists(list []int) [][]int {
	lists := [][]int{nil, {0}, {-1}, joined(list, []int{0}), joined(list, []int{-1}), joined([]int{0}, list), joined([]int{-1}, list), joined(list, list), reversed(list)}
	if len(list) > 0 {
		lists = append(lists, list[1:], list[:len(list)-1])
	}
	for i, entry := range list {
		for _, other := range []int{-2, -1, 0, entry - 1, entry + 1, i, len(list) - 1, len(list), len(list) + 1, 2 * len(list), math.MaxInt, math.MaxInt - 1, math.MinInt, 1<<32 + entry, -entry} {
			changed := joined(list)
			changed[i] = other
			lists = append(lists, changed)
		}
		if i > 0 {
			turned := joined(list)
			turned[i-1], turned[i] = turned[i], turned[i-1]
			lists = append(lists, turned)
		}
	}
	return lists
}

// noProofs are lists that are no proof of any word.
func noProofs() [][]int {
	lists := [][]int{{-1}, {-2}, {64}, {63}, {math.MaxInt}, {math.MaxInt - 1}, {math.MinInt}, {math.MinInt + 1}, {1 << 32}, {0, -1}, {0, math.MaxInt}, {-1, 0}, repeated(0, 33), repeated(0, 5000), repeated(-1, 64), repeated(math.MinInt, 64), repeated(1, 70)}
	return append(lists, []int{math.MaxInt, math.MinInt}, repeated(math.MaxInt, 3))
}

func makeCutCall(i int) wordCall {
	return wordCall{"MakeCut " + strconv.Itoa(i), func(u, _ []int) outcome {
		a, ok := impl.MakeCut(u, i)
		return outcomeOf(a, ok)
	}}
}

// proofCalls are the functions of one word of chapter 11, some with places that some words have.
func proofCalls() []wordCall {
	return []wordCall{
		{"CutsOf", func(u, _ []int) outcome { a, ok := impl.CutsOf(u); return outcomeOf(a, ok) }},
		{"FirstProof", func(u, _ []int) outcome { a, ok := impl.FirstProof(u); return outcomeOf(a, ok) }},
		{"LastProof", func(u, _ []int) outcome { a, ok := impl.LastProof(u); return outcomeOf(a, ok) }},
		{"PairingOf", func(u, _ []int) outcome { a, ok := impl.PairingOf(u); return outcomeOf(a, ok) }},
		{"CountPairings", func(u, _ []int) outcome { a, ok := impl.CountPairings(u); return outcomeOf(a, ok) }},
		{"CountProofs", func(u, _ []int) outcome { a, ok := impl.CountProofs(u); return outcomeOf(a, ok) }},
		{"LeastLetters", func(u, _ []int) outcome { a, ok := impl.LeastLetters(u); return outcomeOf(a, ok) }},
		makeCutCall(0), makeCutCall(1), makeCutCall(2), makeCutCall(31), makeCutCall(62),
	}
}

// proofListCalls are those of a word and of a list.
func proofListCalls() []wordCall {
	return []wordCall{
		{"IsProof", func(u, v []int) outcome { a, ok := impl.IsProof(u, v); return outcomeOf(a, ok) }},
		{"IsPairing", func(u, v []int) outcome { a, ok := impl.IsPairing(u, v); return outcomeOf(a, ok) }},
		{"PairingOfProof", func(u, v []int) outcome { a, ok := impl.PairingOfProof(u, v); return outcomeOf(a, ok) }},
	}
}

// checkProof checks what is said of a list of cuts: whether it is a proof, and its pairing, if it
// is one.
func checkProof(t *testing.T, w []int, list []int, want bool) {
	t.Helper()
	is, ok := impl.IsProof(w, list)
	checkFlag(t, is, ok, want, "IsProof", w, list)
	pairing, ok := impl.PairingOfProof(w, list)
	if want {
		wantWord(t, pairing, ok, wantPaired(w, list), "PairingOfProof", w, list)
	} else {
		wantNone(t, pairing, ok, "PairingOfProof", w, list)
	}
}

// checkPairing checks whether a list is said to be a pairing.
func checkPairing(t *testing.T, w []int, list []int, want bool) {
	t.Helper()
	is, ok := impl.IsPairing(w, list)
	checkFlag(t, is, ok, want, "IsPairing", w, list)
}
