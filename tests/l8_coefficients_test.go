package tests

import (
	"slices"
	"testing"

	"loop.example/g01206/impl"
)

// knownCoefficients were worked out by hand, or by products of polynomials.
func knownCoefficients() []struct {
	w     []int
	lists [][]int
	want  []int
} {
	ones := [][]int{nil, {1}, {1, 1}, {1, 1, 1}}
	of12 := [][]int{nil, {1}, {2}, {1, 1}, {1, 2}, {2, 1}, {2, 2}, {1, 1, 1}, {1, 1, 2}, {1, 2, 1}, {1, 2, 2}, {2, 1, 1}, {2, 1, 2}, {2, 2, 1}, {2, 2, 2}}
	return []struct {
		w     []int
		lists [][]int
		want  []int
	}{
		{wordOf(""), of12, []int{1, 0, 0, 0, 0, 0, 0, 0, 0, 0, 0, 0, 0, 0, 0}},
		{wordOf("aA"), of12, []int{1, 0, 0, 0, 0, 0, 0, 0, 0, 0, 0, 0, 0, 0, 0}},
		{wordOf("Aa"), ones, []int{1, 0, 0, 0}},
		{wordOf("a"), ones, []int{1, 1, 0, 0}},
		{wordOf("aa"), ones, []int{1, 2, 1, 0}},
		{wordOf("aaa"), ones, []int{1, 3, 3, 1}},
		{wordOf("aaaa"), ones, []int{1, 4, 6, 4}},
		{wordOf("A"), ones, []int{1, -1, 1, -1}},
		{wordOf("AA"), ones, []int{1, -2, 3, -4}},
		{wordOf("AAA"), ones, []int{1, -3, 6, -10}},
		{repeated(1, 64), ones, []int{1, 64, 2016, 41664}},
		{repeated(-1, 64), ones, []int{1, -64, 2080, -45760}},
		{joined(repeated(1, 40), repeated(-1, 24)), ones, []int{1, 16, 120, 560}},
		// All lists of two nails.
		{wordOf("ab"), of12, []int{1, 1, 1, 0, 1, 0, 0, 0, 0, 0, 0, 0, 0, 0, 0}},
		{wordOf("aB"), of12, []int{1, 1, -1, 0, -1, 0, 1, 0, 0, 0, 1, 0, 0, 0, -1}},
		{wordOf("Ab"), of12, []int{1, -1, 1, 1, -1, 0, 0, -1, 1, 0, 0, 0, 0, 0, 0}},
		{wordOf("AB"), of12, []int{1, -1, -1, 1, 1, 0, 1, -1, -1, 0, -1, 0, 0, 0, -1}},
		{wordOf("bA"), of12, []int{1, -1, 1, 1, 0, -1, 0, -1, 0, 0, 0, 1, 0, 0, 0}},
		{wordOf("bAA"), of12, []int{1, -2, 1, 3, 0, -2, 0, -4, 0, 0, 0, 3, 0, 0, 0}},
		{wordOf("abAB"), of12, []int{1, 0, 0, 0, 1, -1, 0, 0, 0, -1, -1, 1, 1, 0, 0}},
		{wordOf("baBA"), of12, []int{1, 0, 0, 0, -1, 1, 0, 0, 0, 1, 1, -1, -1, 0, 0}},
		{wordOf("abABabaBAA"), of12, []int{1, 0, 0, 0, 0, 0, 0, 0, -1, 2, 0, -1, 0, 0, 0}},
		{joined(repeated(1, 40), repeated(-2, 24)), of12, []int{1, 40, -24, 780, -960, 0, 300, 9880, -18720, 0, 12000, 0, 0, 0, -2600}},
		{slices.Repeat([]int{1, 2}, 32), of12, []int{1, 32, 32, 496, 528, 496, 496, 4960, 5456, 5456, 5456, 4960, 5456, 4960, 4960}},
		// Lists of three nails that differ in the first or in the last one alone.
		{wordOf("ccAA"), [][]int{{1, 1, 1}, {3, 1, 1}, {3, 3, 1}, {1, 3, 1}, {2, 1, 1}, {3, 3, 3}}, []int{-4, 6, -2, 0, 0, 0}},
		{wordOf("AAc"), [][]int{{1, 1, 1}, {1, 1, 3}, {1, 3, 3}, {1, 1, 2}, {3, 1, 1}}, []int{-4, 3, 0, 0, 0}},
		{wordOf("fAAA"), [][]int{{6, 1}, {6, 1, 1}, {1, 1}, {6, 6, 1}, {5, 1, 1}}, []int{-3, 6, 6, 0, 0}},
		{wordOf("abc"), [][]int{{1, 2, 3}, {1, 3}, {1, 3, 2}, {2, 1, 3}, {2, 3, 1}, {3, 1, 2}, {3, 2, 1}, {4}, {1, 2, 4}}, []int{1, 1, 0, 0, 0, 0, 0, 0, 0}},
		{wordOf("ABC"), [][]int{{1, 2, 3}, {1, 1, 3}, {2, 3, 3}, {3, 2, 1}, {1, 3}}, []int{-1, -1, -1, 0, 1}},
		{wordOf("abABcbaBAC"), [][]int{{1, 2, 3}, {2, 1, 3}, {3, 1, 2}, {3, 2, 1}, {1, 3, 2}, {2, 3, 1}, {1, 2}}, []int{1, -1, -1, 1, 0, 0, 0}},
		{wordOf("FEDCBA"), [][]int{{6, 5, 4}, {6, 6, 6}, {6, 6, 1}, {1, 1, 1}, {1, 6}, {6, 1}, {5, 6}}, []int{-1, -1, -1, -1, 0, 1, 0}},
	}
}

func TestCoefficientsKnown(t *testing.T) {
	for _, k := range knownCoefficients() {
		for i, list := range k.lists {
			got, ok := impl.CoefficientOf(k.w, list)
			checkNumber(t, got, ok, k.want[i], "CoefficientOf", k.w, list)
		}
	}
}

// Both ways of telling coefficients agree, and words have those of what they are reduced to.
func TestCoefficientsAreThoseOfTheDefinition(t *testing.T) {
	for i, w := range windingWords() {
		c := wantTold(w)
		want := func(list []int) int { return *c.of(list) }
		checkTold(t, w, want)
		if i%3 == 0 {
			checkTold(t, wantReduced(w), want)
			checkTold(t, w, func(list []int) int { return chosenSum(w, list) })
		}
	}
}

func TestWordsThatVanishHaveNoCoefficients(t *testing.T) {
	vanished := 0
	for _, w := range windingWords() {
		if len(wantReduced(w)) == 0 {
			vanished++
			checkTold(t, w, func(list []int) int {
				if len(list) == 0 {
					return 1
				}
				return 0
			})
		}
	}
	if vanished < 50 {
		t.Error("words that vanish", vanished)
	}
}

// A letter and its opposite anywhere in a word change nothing.
func TestCoefficientsStayWithOppositesWithin(t *testing.T) {
	for _, text := range []string{"", "a", "B", "abAB", "AAbc", "cBaBc", "FeDD"} {
		w := wordOf(text)
		c := wantTold(w)
		for place := range len(w) + 1 {
			for letter := -6; letter <= 6; letter++ {
				if letter != 0 {
					longer := joined(w[:place], []int{letter, -letter}, w[place:])
					checkTold(t, longer, func(list []int) int { return *c.of(list) })
				}
			}
		}
	}
}

func TestPairSumsKnown(t *testing.T) {
	for _, k := range []struct {
		text            string
		m, n, sum, area int
	}{
		{"", 1, 2, 0, 0}, {"aA", 1, 2, 0, 0}, {"ab", 1, 2, 1, 1}, {"ab", 2, 1, 0, -1}, {"ba", 1, 2, 0, -1}, {"ba", 2, 1, 1, 1},
		{"aB", 1, 2, -1, -1}, {"Ab", 1, 2, -1, -1}, {"AB", 1, 2, 1, 1}, {"AB", 2, 1, 0, -1}, {"BA", 2, 1, 1, 1}, {"bA", 2, 1, -1, -1},
		{"abAB", 1, 2, 1, 2}, {"abAB", 2, 1, -1, -2}, {"baBA", 1, 2, -1, -2}, {"aab", 1, 2, 2, 2}, {"aabb", 1, 2, 4, 4}, {"abab", 1, 2, 3, 2},
		{"abab", 2, 1, 1, -2}, {"aBab", 1, 2, 1, 2}, {"aba", 1, 2, 1, 0}, {"fcF", 6, 3, 1, 2}, {"fcF", 3, 6, -1, -2}, {"fcF", 1, 2, 0, 0},
		{"fcF", 6, 1, 0, 0}, {"ef", 5, 6, 1, 1}, {"ef", 6, 5, 0, -1}, {"aabbAABB", 1, 2, 4, 8}, {"aabAAB", 2, 1, -2, -4}, {"abAABaabAABa", 1, 2, 4, 8},
		{"abcABC", 1, 3, 1, 2}, {"abcABC", 2, 3, 1, 2}, {"abcABC", 3, 1, -1, -2}, {"abcABC", 4, 1, 0, 0},
	} {
		sum, ok := impl.PairSum(wordOf(k.text), k.m, k.n)
		checkNumber(t, sum, ok, k.sum, "PairSum", k.text, k.m, k.n)
		area, ok := impl.AreaOf(wordOf(k.text), k.m, k.n)
		checkNumber(t, area, ok, k.area, "AreaOf", k.text, k.m, k.n)
	}
	long := joined(repeated(6, 32), repeated(-1, 32))
	sum, ok := impl.PairSum(long, 6, 1)
	checkNumber(t, sum, ok, -1024, "PairSum", long, 6, 1)
	area, ok := impl.AreaOf(long, 1, 6)
	checkNumber(t, area, ok, 1024, "AreaOf", long, 1, 6)
}

func TestPairSumsAreThoseOfTheLetters(t *testing.T) {
	for _, w := range windingWords() {
		windings := wantWindings(w)
		for m := 1; m <= 6; m++ {
			for n := 1; n <= 6; n++ {
				if m == n {
					continue
				}
				sum, ok := impl.PairSum(w, m, n)
				checkNumber(t, sum, ok, wantPairSum(w, m, n), "PairSum", w, m, n)
				turned, fine := impl.PairSum(w, n, m)
				checkNumber(t, sum+turned, ok && fine, windings[m]*windings[n], "both PairSums", w, m, n)
				area, ok := impl.AreaOf(w, m, n)
				checkNumber(t, area, ok, sum-turned, "AreaOf", w, m, n)
			}
		}
	}
}

func TestPairsOfTheSameNailFail(t *testing.T) {
	for _, w := range [][]int{nil, {1}, {1, -1}, {1, 2}, {1, 1}, {2, 1, -2, -1}, {-3, -3}, repeated(6, 64), {6, 5, 4, 3, 2, 1}} {
		for n := 1; n <= 6; n++ {
			refuse(t, w, pairCallsOf(n, n)...)
		}
	}
}

// checkFirst checks the first coefficient of a word.
func checkFirst(t *testing.T, w []int, list []int, coefficient int, found bool) {
	t.Helper()
	got, k, ok := impl.FirstCoefficient(w)
	if ok != found || k != coefficient || !slices.Equal(got, list) {
		t.Errorf("FirstCoefficient(%v) = %v, %d, %v, not %v, %d, %v", w, got, k, ok, list, coefficient, found)
	}
}

func TestFirstCoefficientsKnown(t *testing.T) {
	for _, k := range []struct {
		text        string
		list        []int
		coefficient int
	}{
		{"a", []int{1}, 1}, {"A", []int{1}, -1}, {"aa", []int{1}, 2}, {"AAA", []int{1}, -3}, {"F", []int{6}, -1}, {"fe", []int{5}, 1},
		{"bA", []int{1}, -1}, {"Ba", []int{1}, 1}, {"aAB", []int{2}, -1},
		// Shorter lists come ahead of longer ones: those of 1 and 2 have a coefficient too.
		{"abA", []int{2}, 1}, {"abABf", []int{6}, 1}, {"abABcdCDe", []int{5}, 1}, {"abABcbaBACf", []int{6}, 1}, {"abABabaBAAefEF", []int{5, 6}, 1},
		{"abAB", []int{1, 2}, 1}, {"baBA", []int{1, 2}, -1}, {"aBAb", []int{1, 2}, -1}, {"aabbAABB", []int{1, 2}, 4}, {"fbFB", []int{2, 6}, -1},
		{"abcBAC", []int{1, 3}, 1}, {"bcBCacAC", []int{1, 3}, 1}, {"efEFdeDE", []int{4, 5}, 1}, {"edEDfcFC", []int{3, 6}, -1},
		{"abABcbaBAC", []int{1, 2, 3}, 1}, {"cabABCbaBA", []int{1, 2, 3}, -1}, {"abABabaBAA", []int{1, 1, 2}, -1}, {"aabABAbaBA", []int{1, 1, 2}, 1},
		{"abABccbaBACC", []int{1, 2, 3}, 2}, {"dedEDfdeDEFD", []int{4, 5, 6}, -1}, {"feFEdefEFD", []int{4, 5, 6}, 1}, {"abABbbaBAB", []int{1, 2, 2}, 1},
	} {
		checkFirst(t, wordOf(k.text), k.list, k.coefficient, true)
	}
	checkFirst(t, repeated(1, 64), []int{1}, 64, true)
	checkFirst(t, repeated(-6, 64), []int{6}, -64, true)
	checkFirst(t, slices.Repeat([]int{1, 2, -1, -2}, 16), []int{1, 2}, 16, true)
	for _, d := range deepWords() {
		if d.order == 0 || d.order == 4 {
			checkFirst(t, wordOf(d.text), nil, 0, false)
		}
	}
}

func TestFirstCoefficientsAreThoseOfTheDefinition(t *testing.T) {
	for _, w := range windingWords() {
		list, coefficient, found := firstTold(wantTold(w))
		checkFirst(t, w, list, coefficient, found)
	}
}

func checkCounts(t *testing.T, w []int, want [4]int) {
	t.Helper()
	got, ok := impl.CountCoefficients(w)
	if !ok || got != want {
		t.Errorf("CountCoefficients(%v) = %v, %v, not %v", w, got, ok, want)
	}
}

func TestCountsOfCoefficientsKnown(t *testing.T) {
	for text, want := range map[string][4]int{
		"": {1, 0, 0, 0}, "aA": {1, 0, 0, 0}, "abBA": {1, 0, 0, 0}, "a": {1, 1, 0, 0}, "A": {1, 1, 1, 1}, "aa": {1, 1, 1, 0}, "aaa": {1, 1, 1, 1},
		"ab": {1, 2, 1, 0}, "aB": {1, 2, 2, 2}, "Ab": {1, 2, 2, 2}, "AB": {1, 2, 3, 4}, "abA": {1, 1, 2, 2}, "bbA": {1, 2, 3, 3}, "aab": {1, 2, 2, 1},
		"abAB": {1, 0, 2, 4}, "aBAb": {1, 0, 2, 4}, "abcABC": {1, 0, 6, 16}, "abABcdCD": {1, 0, 4, 8}, "abABcbaBAC": {1, 0, 0, 4}, "abABabaBAA": {1, 0, 0, 3},
		"abABcdCDbaBAdcDC": {1, 0, 0, 0}, "abcabc": {1, 3, 9, 17}, "abcdef": {1, 6, 15, 20}, "FEDCBA": {1, 6, 21, 56}, "eFeF": {1, 2, 4, 6},
		"aabbAABB": {1, 0, 2, 6}, "abcBAC": {1, 0, 4, 12}, "aaAAbB": {1, 0, 0, 0}, "abAABaabAABa": {1, 0, 2, 4},
	} {
		checkCounts(t, wordOf(text), want)
	}
	checkCounts(t, slices.Repeat([]int{1, 2, 3, 4, 5, 6}, 10), [4]int{1, 6, 36, 216})
	checkCounts(t, repeated(-4, 64), [4]int{1, 1, 1, 1})
	checkCounts(t, slices.Repeat([]int{2, -2}, 32), [4]int{1, 0, 0, 0})
}

func TestCountsOfCoefficientsAreThoseOfTheDefinition(t *testing.T) {
	for _, w := range windingWords() {
		c, want := wantTold(w), [4]int{}
		for _, list := range nailRows() {
			if *c.of(list) != 0 {
				want[len(list)]++
			}
		}
		checkCounts(t, w, want)
	}
}
