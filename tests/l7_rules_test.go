package tests

import (
	"slices"
	"testing"

	"loop.example/g01206/impl"
)

func TestCountWithKnown(t *testing.T) {
	known := []struct {
		sets   []int
		n      int
		counts []int
	}{
		{nil, 1, []int{0, 0, 0, 0, 0, 0, 0, 0, 0}}, {nil, 2, []int{0, 0, 0, 0, 0, 0, 0, 0, 0}}, {nil, 3, []int{0, 0, 0, 0, 0, 0}},
		{[]int{0}, 1, []int{1, 0, 0, 0, 0, 0, 0, 0, 0}}, {[]int{0}, 2, []int{1, 0, 0, 0, 0, 0, 0, 0, 0}},
		{[]int{0}, 3, []int{1, 0, 0, 0, 0, 0}}, {[]int{1}, 1, []int{0, 2, 2, 2, 2, 2, 2, 2, 2}},
		{[]int{1}, 2, []int{0, 2, 2, 6, 14, 58, 106, 414, 894}}, {[]int{2}, 2, []int{0, 2, 2, 6, 14, 58, 106, 414, 894}},
		{[]int{3}, 2, []int{0, 0, 8, 24, 72, 208, 720, 2088, 6648}}, {[]int{1, 2}, 2, []int{0, 0, 0, 0, 8, 0, 40, 0, 312}},
		{[]int{4}, 3, []int{0, 2, 2, 10, 26, 130}}, {[]int{6}, 3, []int{0, 0, 8, 24, 120, 496}},
		{[]int{7}, 3, []int{0, 0, 0, 48, 288, 1632}}, {[]int{1, 4}, 3, []int{0, 0, 0, 0, 8, 0}},
		{[]int{3, 5}, 3, []int{0, 0, 0, 0, 0, 80}}, {[]int{1, 6}, 3, []int{0, 0, 0, 0, 0, 0}},
		{[]int{1, 2, 4}, 3, []int{0, 0, 0, 0, 0, 0}}, {[]int{3, 5, 6}, 3, []int{0, 0, 0, 0, 0, 0}},
		// With nails above n: a Set with one of them has no member among the sets of the others.
		{[]int{2}, 1, []int{0, 0, 0, 0, 0, 0, 0, 0, 0}}, {[]int{63}, 3, []int{0, 0, 0, 0, 0, 0}}, {[]int{32}, 2, []int{0, 0, 0}},
		{[]int{1, 2}, 1, []int{0, 2, 2, 2, 2, 2, 2, 2, 2}}, {[]int{3, 4}, 2, []int{0, 0, 8, 24, 72, 208, 720, 2088, 6648}},
		{[]int{1, 2, 4, 8, 16, 32}, 2, []int{0, 0, 0, 0, 8, 0, 40, 0, 312}}, {[]int{1, 10}, 3, []int{0, 2, 2, 10, 26, 130}},
		{[]int{5, 9, 18}, 3, []int{0, 0, 8, 24, 120, 496}}, {[]int{1, 62}, 2, []int{0, 2, 2, 6, 14, 58, 106, 414, 894}},
	}
	for _, k := range known {
		for length, want := range k.counts {
			got, ok := impl.CountWith(family(k.sets...), k.n, length)
			checkNumber(t, got, ok, want, "CountWith", k.sets, k.n, length)
		}
	}
}

// Each word has the rule of just one of all Families of the nails 1..n.
func TestCountWithOfAllFamilies(t *testing.T) {
	for n := 1; n <= impl.MaxListed; n++ {
		words := reducedWords(n, searchBounds()[n])
		for length := range searchBounds()[n] + 1 {
			counts, sum := map[rule]int{}, 0
			for _, w := range ofLength(words, length) {
				counts[wantRule(w, n)]++
			}
			for _, sets := range allFamilies(n) {
				got, ok := impl.CountWith(family(sets...), n, length)
				checkNumber(t, got, ok, counts[ruleOfSets(sets, n)], "CountWith", sets, n, length)
				sum += got
			}
			want, ok := impl.CountReduced(n, length)
			checkNumber(t, sum, ok, want, "all Families", n, length)
		}
	}
}

func TestCountWithOfManyFamilies(t *testing.T) {
	for n := 1; n <= impl.MaxListed; n++ {
		words := reducedWords(n, 4)
		for length := range 5 {
			counts := map[rule]int{}
			for _, w := range ofLength(words, length) {
				counts[wantRule(w, n)]++
			}
			for _, sets := range manyFamilies() {
				got, ok := impl.CountWith(family(sets...), n, length)
				checkNumber(t, got, ok, counts[ruleOfSets(sets, n)], "CountWith", sets, n, length)
			}
		}
	}
}

func TestFirstWithKnown(t *testing.T) {
	known := []struct {
		sets []int
		n    int
		want string
	}{
		{[]int{0}, 1, ""}, {[]int{0}, 2, ""}, {[]int{0}, 3, ""}, {[]int{1}, 1, "a"}, {[]int{1}, 2, "a"}, {[]int{1}, 3, "a"},
		{[]int{2}, 2, "b"}, {[]int{2}, 3, "b"}, {[]int{4}, 3, "c"}, {[]int{3}, 2, "ab"}, {[]int{5}, 3, "ac"}, {[]int{6}, 3, "bc"},
		{[]int{7}, 3, "abc"}, {[]int{1, 2}, 2, "abAB"}, {[]int{1, 2}, 3, "abAB"}, {[]int{1, 4}, 3, "acAC"},
		{[]int{2, 4}, 3, "bcBC"}, {[]int{3, 5}, 3, "abcBC"}, {[]int{3, 6}, 3, "abcAC"}, {[]int{5, 6}, 3, "abABc"},
		{[]int{1, 2}, 1, "a"}, {[]int{1, 62}, 3, "a"}, {[]int{1, 10, 12}, 3, "a"}, {[]int{7, 24, 40, 48}, 3, "abc"},
		{[]int{1, 2, 4, 8, 16, 32}, 1, "a"}, {[]int{1, 2, 4, 8, 16, 32}, 2, "abAB"}, {[]int{3, 12, 48}, 2, "ab"},
		{[]int{3, 5, 24}, 3, "abcBC"}, {[]int{3, 5, 6, 8}, 2, "ab"},
	}
	for _, k := range known {
		got, ok := impl.FirstWith(family(k.sets...), k.n)
		wantWord(t, got, ok, wordOf(k.want), "FirstWith", k.sets, k.n)
	}
}

func TestFirstWithFailsWhereThereIsNone(t *testing.T) {
	known := map[int][][]int{
		1: {nil, {2}, {3}, {63}, {2, 4}, {6, 9}, {7, 24}},
		2: {nil, {4}, {7}, {5}, {5, 6}, {63}, {48}, {4, 8, 16, 32}},
		// There are words for these, but they are longer.
		3: {nil, {8}, {63}, {24, 40, 48}, {1, 6}, {2, 5}, {3, 4}, {1, 2, 4}, {3, 5, 6}, {1, 2, 4, 8}, {3, 4, 8}, {9, 10, 12}},
	}
	for n, families := range known {
		for _, sets := range families {
			refuse(t, sets, firstWithCall(n))
		}
	}
	if is, ok := impl.IsWordFor(wordOf("abcACB"), family(1, 6)); !ok || !is {
		t.Error("a word of 6 letters is for 1 and 6", is, ok)
	}
}

// No shorter word and none ahead of it has the rule.
func TestFirstWithIsTheFirst(t *testing.T) {
	for n := 1; n <= impl.MaxListed; n++ {
		firsts := firstWords(reducedWords(n, searchBounds()[n]), n)
		for _, sets := range append(allFamilies(n), manyFamilies()...) {
			got, ok := impl.FirstWith(family(sets...), n)
			if want, found := firsts[ruleOfSets(sets, n)]; found {
				wantWord(t, got, ok, want, "FirstWith", sets, n)
			} else {
				wantNone(t, got, ok, "FirstWith", sets, n)
			}
		}
	}
}

// FirstWith and CountWith tell of the same words, length by length.
func TestFirstWithIsCounted(t *testing.T) {
	for n := 1; n <= impl.MaxListed; n++ {
		for _, sets := range allFamilies(n) {
			first, found := impl.FirstWith(family(sets...), n)
			for length := range searchBounds()[n] + 1 {
				count, ok := impl.CountWith(family(sets...), n, length)
				if !ok || found && length < len(first) && count != 0 || found && length == len(first) && count == 0 || !found && count != 0 {
					t.Errorf("FirstWith(%v, %d) = %v, %v, but there are %d of %d letters", sets, n, first, found, count, length)
				}
			}
		}
	}
}

func TestShortestLikeKnown(t *testing.T) {
	known := []struct {
		w    string
		n    int
		want string
	}{
		{"", 1, ""}, {"", 2, ""}, {"", 3, ""}, {"a", 1, "a"}, {"A", 1, "a"}, {"AAAAAAAA", 1, "a"}, {"B", 2, "b"}, {"C", 3, "c"},
		{"BA", 2, "ab"}, {"cB", 3, "bc"}, {"CBA", 3, "abc"}, {"baBA", 2, "abAB"}, {"bABa", 3, "abAB"}, {"CbcB", 3, "bcBC"},
		{"cBCba", 3, "abcBC"}, {"cbabAB", 3, "bc"},
		// With hidden letters.
		{"abA", 2, "b"}, {"bcaCB", 3, "a"}, {"abaB", 2, "a"}, {"cabABC", 3, "abAB"}, {"abaaB", 2, "a"}, {"cabcBCAC", 3, "bcBC"},
		{"cbaBaC", 3, "a"},
		// Longer than all words that are searched for.
		{much("a", 64), 1, "a"}, {much("A", 9), 1, "a"}, {much("B", 64), 2, "b"}, {much("ab", 32), 2, "ab"}, {much("abAB", 16), 2, "abAB"},
		{"aabbAABBa", 2, "a"}, {"aaabbbAAABBB", 2, "abAB"}, {much("b", 31) + "aa" + much("B", 31), 2, "a"}, {much("c", 6), 3, "c"},
		{much("abc", 21), 3, "abc"}, {much("bcBC", 16), 3, "bcBC"}, {much("c", 31) + "aa" + much("C", 31), 3, "a"}, {"CCabABcc", 3, "abAB"},
		{much("bC", 32), 3, "bc"}, {"abABcc", 3, "abABc"},
	}
	for _, k := range known {
		got, ok := impl.ShortestLike(wordOf(k.w), k.n)
		wantWord(t, got, ok, wordOf(k.want), "ShortestLike", k.w, k.n)
	}
}

// For some words of three nails there is none that is short enough.
func TestShortestLikeFailsWhereThereIsNone(t *testing.T) {
	for _, text := range []string{
		"abcACB", "abcBAC", "bacBCA", "cabCBA", "acbACB", "abcbACBB", "abABcbaBAC", "abABacACbcBC", "abcACBabcACB",
		much("abABcbaBAC", 2), much("abcACB", 10),
	} {
		refuse(t, wordOf(text), shortestLikeCall(3))
	}
	// There is the word itself, but words of more nails are not searched for.
	for n := 4; n <= 6; n++ {
		for _, text := range []string{"", "a", "ab", "abAB", "d"} {
			refuse(t, wordOf(text), shortestLikeCall(n))
		}
	}
}

// checkShortest checks the first word that falls like a word.
func checkShortest(t *testing.T, w []int, n int, firsts map[rule][]int) {
	t.Helper()
	got, ok := impl.ShortestLike(w, n)
	want, found := firsts[wantRule(w, n)]
	if !found {
		wantNone(t, got, ok, "ShortestLike", w, n)
		return
	}
	wantWord(t, got, ok, want, "ShortestLike", w, n)
	if alike, fine := impl.FallAlike(got, w); !fine || !alike || len(got) > len(w) {
		t.Errorf("ShortestLike(%v, %d) = %v: alike %v", w, n, got, alike)
	}
}

func TestShortestLikeIsTheFirst(t *testing.T) {
	for n := 1; n <= impl.MaxListed; n++ {
		words := reducedWords(n, searchBounds()[n])
		firsts := firstWords(words, n)
		// Not all words, which would take long.
		for place := 0; place < len(words); place += 1 + place/40 {
			checkShortest(t, words[place], n, firsts)
		}
		for _, w := range longWords(n) {
			checkShortest(t, w, n, firsts)
		}
		for _, u := range longWords(n)[:16] {
			for _, v := range longWords(n)[:16] {
				checkShortest(t, commutator(u, v), n, firsts)
			}
		}
	}
}

func TestRulesOfKnown(t *testing.T) {
	known := [][]int{nil, {1, 2, 2, 2, 2, 2, 2, 2, 2}, {1, 3, 4, 4, 5, 5, 5, 5, 5}, {1, 4, 7, 8, 11, 14}}
	for n, counts := range known {
		for length, want := range counts {
			got, ok := impl.RulesOf(n, length)
			checkNumber(t, got, ok, want, "RulesOf", n, length)
		}
	}
}

// Each Family of which there is a word is counted once, whatever the words.
func TestRulesOfAreThoseOfTheWords(t *testing.T) {
	for n := 1; n <= impl.MaxListed; n++ {
		for length := range searchBounds()[n] + 1 {
			of := 0
			for _, sets := range allFamilies(n) {
				first, ok := impl.FirstWith(family(sets...), n)
				if ok && len(first) <= length {
					of++
				}
			}
			told := [][]int{}
			for size := range length + 1 {
				words, _ := impl.WordsOf(n, size)
				for _, w := range words {
					f, _ := impl.FamilyOfWord(w)
					if !slices.ContainsFunc(told, func(sets []int) bool { return slices.Equal(sets, f.Sets) }) {
						told = append(told, f.Sets)
					}
				}
			}
			got, ok := impl.RulesOf(n, length)
			checkNumber(t, got, ok, of, "RulesOf", n, length)
			checkNumber(t, got, ok, len(told), "RulesOf", n, length)
		}
	}
}
