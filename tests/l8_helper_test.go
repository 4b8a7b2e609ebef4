package tests

import (
	"math"
	"slices"
	"strconv"
	"testing"

	"loop.example/g01206/impl"
)

// told are the coefficients of all lists of a word; lists of fewer than three nails have 0 ahead
// of them.
type told [7][7][7]int

func (c *told) of(list []int) *int {
	row := [3]int{}
	copy(row[3-len(list):], list)
	return &c[row[0]][row[1]][row[2]]
}

// nailRows are all lists of 0..3 nails, in their order.
func nailRows() [][]int {
	rows := [][]int{{}}
	for start := 0; len(rows[start]) < 3; start++ {
		for nail := 1; nail <= 6; nail++ {
			rows = append(rows, joined(rows[start], []int{nail}))
		}
	}
	return rows
}

// rowsOf are those of a length.
func rowsOf(length int) [][]int {
	return ofLength(nailRows(), length)
}

// wantTold are the coefficients of a word, by the document's definition, letter by letter.
func wantTold(w []int) *told {
	rows := nailRows()
	c := &told{}
	*c.of(nil) = 1
	for _, letter := range w {
		next := &told{}
		for _, list := range rows {
			*next.of(list) = wantBehind(c, letter, list)
		}
		c = next
	}
	return c
}

// wantBehind is the coefficient of a list for a word with a letter behind it.
func wantBehind(c *told, letter int, list []int) int {
	r := 0
	for r < len(list) && list[len(list)-1-r] == max(letter, -letter) {
		r++
	}
	cut := func(k int) int { return *c.of(list[:len(list)-k]) }
	switch {
	case r == 0:
		return cut(0)
	case letter > 0:
		return cut(0) + cut(1)
	case r == 1:
		return cut(0) - cut(1)
	case r == 2:
		return cut(0) - cut(1) + cut(2)
	}
	return cut(0) - cut(1) + cut(2) - cut(3)
}

// chosenSum is a coefficient in another way: for all nails of a list letters are chosen, none
// ahead of the one before it. A turn is chosen once; a letter the other way around may be chosen
// again and again, and makes each time the other sign.
func chosenSum(w []int, list []int) int {
	if len(list) == 0 {
		return 1
	}
	sum := 0
	for i, letter := range w {
		switch letter {
		case list[0]:
			sum += chosenSum(w[i+1:], list[1:])
		case -list[0]:
			sum -= chosenSum(w[i:], list[1:])
		}
	}
	return sum
}

// wantPairSum is the sum over letters of m and those of n behind them.
func wantPairSum(w []int, m int, n int) int {
	sum := 0
	for i, ahead := range w {
		for _, behind := range w[i:] {
			if max(ahead, -ahead) == m && max(behind, -behind) == n {
				sum += (ahead / m) * (behind / n)
			}
		}
	}
	return sum
}

// wantOrder is the order of a word with some coefficients.
func wantOrder(w []int, c *told) int {
	if len(wantReduced(w)) == 0 {
		return 0
	}
	for _, list := range nailRows()[1:] {
		if *c.of(list) != 0 {
			return len(list)
		}
	}
	return 4
}

// wantSame tells whether words have the same coefficients of all of some lists.
func wantSame(c *told, d *told, rows [][]int) bool {
	return !slices.ContainsFunc(rows, func(list []int) bool { return *c.of(list) != *d.of(list) })
}

// deepWords are texts of words whose order is known: commutators of commutators, and products and
// powers of such.
func deepWords() []struct {
	text  string
	order int
} {
	return []struct {
		text  string
		order int
	}{
		{"", 0}, {"aA", 0}, {"Ff", 0}, {"abBA", 0}, {"abABbaBA", 0},
		{"a", 1}, {"F", 1}, {"ab", 1}, {"aB", 1}, {"abA", 1}, {"AbCcBaf", 1}, {"abABc", 1}, {"abcabc", 1},
		{"abAB", 2}, {"baBA", 2}, {"FeEcCbfB", 2}, {"aabbAABB", 2}, {"aabAAB", 2}, {"abcABC", 2}, {"abABcdCD", 2}, {"abAABaabAABa", 2},
		{"cabABC", 2}, {"abcBAC", 2}, {"abABabAB", 2},
		{"abABcbaBAC", 3}, {"cabABCbaBA", 3}, {"abABabaBAA", 3}, {"aabABAbaBA", 3}, {"abcBCAcbCB", 3}, {"abABccbaBACC", 3},
		{"abbaBAAB", 3}, {"abABAbaB", 3}, {"DabABcbaBACd", 3}, {"dedEDfdeDEFD", 3},
		{"abABcbaBACdcabABCbaBAD", 4}, {"abABcdCDbaBAdcDC", 4}, {"abABabaBAAbaabABAbaBAB", 4}, {"abABabABcbaBACbaBAcabABCbaBA", 4},
		{"fabABcdCDbaBAdcDCF", 4}, {"abABcdCDbaBAdcDCabABcdCDbaBAdcDC", 4},
	}
}

// windingWords are the words that tests of all functions of chapter 8 share.
func windingWords() [][]int {
	words := knownWords()
	for _, d := range deepWords() {
		words = append(words, wordOf(d.text), opposite(wordOf(d.text)))
	}
	for nail := 1; nail <= 6; nail++ {
		words = append(words, repeated(nail, impl.MaxWord), repeated(-nail, impl.MaxWord), joined(repeated(nail, 40), repeated(-nail, 24)))
	}
	return append(words, shortWords(3, 3)...)
}

// noRows are lists that have no coefficient: other numbers at each place, and too many nails.
func noRows() [][]int {
	rows := [][]int{
		{1, 1, 1, 1}, {1, 2, 3, 4}, {6, 6, 6, 6}, {1, 1, 1, 0}, {0, 1, 1, 1}, {7, 1, 1, 1}, repeated(2, 5), repeated(1, 64), repeated(0, 4),
		repeated(3, 5000), {0, 0}, {0, 0, 0}, {7, 7}, {-1, -1, -1}, {7, 0, -1}, {math.MinInt, math.MaxInt}, {math.MaxInt, math.MaxInt, 2},
	}
	for _, bad := range noNails() {
		rows = append(rows, []int{bad}, []int{bad, 1}, []int{1, bad}, []int{bad, 2, 3}, []int{2, bad, 3}, []int{2, 3, bad})
	}
	return rows
}

// rowsOfAllKinds are lists that have coefficients, and others.
func rowsOfAllKinds() [][]int {
	return append(noRows(), nil, []int{1}, []int{6}, []int{1, 2}, []int{3, 3}, []int{1, 1, 1}, []int{6, 1, 6})
}

// windingCalls are the functions of one word of chapter 8, some with nails that are valid.
func windingCalls() []wordCall {
	calls := []wordCall{
		{"WindingsOf", func(u, _ []int) outcome { a, ok := impl.WindingsOf(u); return outcomeOf(a, ok) }},
		{"IsBalancedLoop", func(u, _ []int) outcome { a, ok := impl.IsBalancedLoop(u); return outcomeOf(a, ok) }},
		{"OrderOf", func(u, _ []int) outcome { a, ok := impl.OrderOf(u); return outcomeOf(a, ok) }},
		{"FirstCoefficient", func(u, _ []int) outcome { a, k, ok := impl.FirstCoefficient(u); return outcomeOf(a, k, ok) }},
		{"CountCoefficients", func(u, _ []int) outcome { a, ok := impl.CountCoefficients(u); return outcomeOf(a, ok) }},
		{"WindingText", func(u, _ []int) outcome { a, ok := impl.WindingText(u); return outcomeOf(a, ok) }},
	}
	for _, pair := range [][2]int{{1, 2}, {2, 1}, {1, 6}, {6, 5}, {4, 3}} {
		calls = append(calls, pairCallsOf(pair[0], pair[1])...)
	}
	return calls
}

func pairCallsOf(m int, n int) []wordCall {
	names := " " + strconv.Itoa(m) + " " + strconv.Itoa(n)
	return []wordCall{
		{"PairSum" + names, func(u, _ []int) outcome { a, ok := impl.PairSum(u, m, n); return outcomeOf(a, ok) }},
		{"AreaOf" + names, func(u, _ []int) outcome { a, ok := impl.AreaOf(u, m, n); return outcomeOf(a, ok) }},
	}
}

// coefficientOfCall takes its second list as the nails.
func coefficientOfCall() wordCall {
	return wordCall{"CoefficientOf", func(u, v []int) outcome {
		a, ok := impl.CoefficientOf(u, v)
		return outcomeOf(a, ok)
	}}
}

func sameToOrderCall(n int) wordCall {
	return wordCall{"SameToOrder " + strconv.Itoa(n), func(u, v []int) outcome {
		a, ok := impl.SameToOrder(u, v, n)
		return outcomeOf(a, ok)
	}}
}

// sameCalls are SameToOrder with all numbers that it takes.
func sameCalls() []wordCall {
	return []wordCall{sameToOrderCall(0), sameToOrderCall(1), sameToOrderCall(2), sameToOrderCall(3)}
}

// checkFlag checks the result of a function that tells whether something is so.
func checkFlag(t *testing.T, got bool, ok bool, want bool, call ...any) {
	t.Helper()
	if !ok || got != want {
		t.Errorf("%v = %v, %v, not %v", call, got, ok, want)
	}
}

// checkTold checks all coefficients of a word.
func checkTold(t *testing.T, w []int, want func(list []int) int) {
	t.Helper()
	for _, list := range nailRows() {
		got, ok := impl.CoefficientOf(w, list)
		if !ok || got != want(list) {
			t.Errorf("CoefficientOf(%v, %v) = %d, %v, not %d", w, list, got, ok, want(list))
		}
	}
}

// firstTold is the first list of at least one nail that has a coefficient other than 0.
func firstTold(c *told) ([]int, int, bool) {
	rows := nailRows()[1:]
	place := slices.IndexFunc(rows, func(list []int) bool { return *c.of(list) != 0 })
	if place < 0 {
		return nil, 0, false
	}
	return rows[place], *c.of(rows[place]), true
}
