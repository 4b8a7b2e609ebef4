package tests

import (
	"slices"
	"testing"

	"loop.example/g01206/impl"
)

// proofCase is a word and what the document tells of it; lists of proofs are empty where the word
// is not reduced to nothing.
type proofCase struct {
	text     string
	cuts     []int
	first    []int
	last     []int
	pairing  []int
	pairings int
	proofs   int
	least    int
}

// proofCases come from a separate program.
func proofCases() []proofCase {
	return []proofCase{
		{"", nil, nil, nil, nil, 1, 1, 0},
		{"aA", []int{0}, []int{0}, []int{0}, []int{1, 0}, 1, 1, 0},
		{"Ff", []int{0}, []int{0}, []int{0}, []int{1, 0}, 1, 1, 0},
		{"a", nil, nil, nil, []int{-1}, 0, 0, 1},
		{"F", nil, nil, nil, []int{-1}, 0, 0, 1},
		{"ab", nil, nil, nil, []int{-1, -1}, 0, 0, 2},
		{"aB", nil, nil, nil, []int{-1, -1}, 0, 0, 2},
		{"aa", nil, nil, nil, []int{-1, -1}, 0, 0, 1},
		{"aAa", []int{0, 1}, nil, nil, []int{1, 0, -1}, 0, 0, 1},
		{"Aaa", []int{0}, nil, nil, []int{1, 0, -1}, 0, 0, 1},
		{"aaA", []int{1}, nil, nil, []int{-1, 2, 1}, 0, 0, 1},
		{"AaA", []int{0, 1}, nil, nil, []int{1, 0, -1}, 0, 0, 1},
		{"aAb", []int{0}, nil, nil, []int{1, 0, -1}, 0, 0, 1},
		{"baA", []int{1}, nil, nil, []int{-1, 2, 1}, 0, 0, 1},
		{"bBa", []int{0}, nil, nil, []int{1, 0, -1}, 0, 0, 1},
		{"abBA", []int{1}, []int{1, 0}, []int{1, 0}, []int{3, 2, 1, 0}, 1, 1, 0},
		{"aAbB", []int{0, 2}, []int{0, 0}, []int{2, 0}, []int{1, 0, 3, 2}, 1, 2, 0},
		{"aAaA", []int{0, 1, 2}, []int{0, 0}, []int{2, 0}, []int{1, 0, 3, 2}, 2, 3, 0},
		{"aAAa", []int{0, 2}, []int{0, 0}, []int{2, 0}, []int{1, 0, 3, 2}, 1, 2, 0},
		{"AaaA", []int{0, 2}, []int{0, 0}, []int{2, 0}, []int{1, 0, 3, 2}, 1, 2, 0},
		{"abAB", nil, nil, nil, []int{-1, -1, -1, -1}, 0, 0, 4},
		{"abBa", []int{1}, nil, nil, []int{-1, 2, 1, -1}, 0, 0, 1},
		{"aAbA", []int{0}, nil, nil, []int{1, 0, -1, -1}, 0, 0, 2},
		{"bbBA", []int{1}, nil, nil, []int{-1, 2, 1, -1}, 0, 0, 2},
		{"abBAc", []int{1}, nil, nil, []int{3, 2, 1, 0, -1}, 0, 0, 1},
		{"aAbBc", []int{0, 2}, nil, nil, []int{1, 0, 3, 2, -1}, 0, 0, 1},
		{"caAbB", []int{1, 3}, nil, nil, []int{-1, 2, 1, 4, 3}, 0, 0, 1},
		{"cabBA", []int{2}, nil, nil, []int{-1, 4, 3, 2, 1}, 0, 0, 1},
		{"abBAcC", []int{1, 4}, []int{1, 0, 0}, []int{4, 1, 0}, []int{3, 2, 1, 0, 5, 4}, 1, 3, 0},
		{"aAbBcC", []int{0, 2, 4}, []int{0, 0, 0}, []int{4, 2, 0}, []int{1, 0, 3, 2, 5, 4}, 1, 6, 0},
		{"aabBAA", []int{2}, []int{2, 1, 0}, []int{2, 1, 0}, []int{5, 4, 3, 2, 1, 0}, 1, 1, 0},
		{"aAaAaA", []int{0, 1, 2, 3, 4}, []int{0, 0, 0}, []int{4, 2, 0}, []int{1, 0, 3, 2, 5, 4}, 5, 15, 0},
		{"aaAAaA", []int{1, 3, 4}, []int{1, 0, 0}, []int{4, 1, 0}, []int{3, 2, 1, 0, 5, 4}, 2, 5, 0},
		{"aAaaAA", []int{0, 1, 3}, []int{0, 1, 0}, []int{3, 2, 0}, []int{1, 0, 5, 4, 3, 2}, 2, 5, 0},
		{"aAAaaA", []int{0, 2, 4}, []int{0, 0, 0}, []int{4, 2, 0}, []int{1, 0, 3, 2, 5, 4}, 2, 7, 0},
		{"abBbBA", []int{1, 2, 3}, []int{1, 1, 0}, []int{3, 1, 0}, []int{5, 2, 1, 4, 3, 0}, 2, 3, 0},
		{"cabBAC", []int{2}, []int{2, 1, 0}, []int{2, 1, 0}, []int{5, 4, 3, 2, 1, 0}, 1, 1, 0},
		{"cabABC", nil, nil, nil, []int{-1, -1, -1, -1, -1, -1}, 0, 0, 4},
		{"aabBAb", []int{2}, nil, nil, []int{-1, 4, 3, 2, 1, -1}, 0, 0, 2},
		{"fEeFdD", []int{1, 4}, []int{1, 0, 0}, []int{4, 1, 0}, []int{3, 2, 1, 0, 5, 4}, 1, 3, 0},
		{"abcCBA", []int{2}, []int{2, 1, 0}, []int{2, 1, 0}, []int{5, 4, 3, 2, 1, 0}, 1, 1, 0},
		{"aAbaABcC", []int{0, 3, 6}, []int{0, 1, 0, 0}, []int{6, 3, 2, 0}, []int{1, 0, 5, 4, 3, 2, 7, 6}, 1, 12, 0},
		{"abBAabBA", []int{1, 3, 5}, []int{1, 0, 1, 0}, []int{5, 4, 1, 0}, []int{3, 2, 1, 0, 7, 6, 5, 4}, 3, 13, 0},
		{"aAaAaAaA", []int{0, 1, 2, 3, 4, 5, 6}, []int{0, 0, 0, 0}, []int{6, 4, 2, 0}, []int{1, 0, 3, 2, 5, 4, 7, 6}, 14, 105, 0},
		{"AbBaaBbA", []int{1, 5}, []int{1, 0, 1, 0}, []int{5, 4, 1, 0}, []int{3, 2, 1, 0, 7, 6, 5, 4}, 1, 6, 0},
		{"abcBbCBA", []int{3}, []int{3, 2, 1, 0}, []int{3, 2, 1, 0}, []int{7, 6, 5, 4, 3, 2, 1, 0}, 1, 1, 0},
		{"abcCcCBA", []int{2, 3, 4}, []int{2, 2, 1, 0}, []int{4, 2, 1, 0}, []int{7, 6, 3, 2, 5, 4, 1, 0}, 2, 3, 0},
		{"abABbaBA", []int{3}, []int{3, 2, 1, 0}, []int{3, 2, 1, 0}, []int{7, 6, 5, 4, 3, 2, 1, 0}, 1, 1, 0},
		{"abcCBAdDeE", []int{2, 6, 8}, []int{2, 1, 0, 0, 0}, []int{8, 6, 2, 1, 0}, []int{5, 4, 3, 2, 1, 0, 7, 6, 9, 8}, 1, 20, 0},
		{"aAaAaAaAaA", []int{0, 1, 2, 3, 4, 5, 6, 7, 8}, []int{0, 0, 0, 0, 0}, []int{8, 6, 4, 2, 0}, []int{1, 0, 3, 2, 5, 4, 7, 6, 9, 8}, 42, 945, 0},
		{"aAbBcCdDeE", []int{0, 2, 4, 6, 8}, []int{0, 0, 0, 0, 0}, []int{8, 6, 4, 2, 0}, []int{1, 0, 3, 2, 5, 4, 7, 6, 9, 8}, 1, 120, 0},
		{"abBAcCabBA", []int{1, 4, 7}, []int{1, 0, 0, 1, 0}, []int{7, 6, 4, 1, 0}, []int{3, 2, 1, 0, 5, 4, 9, 8, 7, 6}, 3, 43, 0},
		{"aAaAaAaAaAaA", []int{0, 1, 2, 3, 4, 5, 6, 7, 8, 9, 10}, []int{0, 0, 0, 0, 0, 0}, []int{10, 8, 6, 4, 2, 0}, []int{1, 0, 3, 2, 5, 4, 7, 6, 9, 8, 11, 10}, 132, 10395, 0},
		{"aAbBcCdDeEfF", []int{0, 2, 4, 6, 8, 10}, []int{0, 0, 0, 0, 0, 0}, []int{10, 8, 6, 4, 2, 0}, []int{1, 0, 3, 2, 5, 4, 7, 6, 9, 8, 11, 10}, 1, 720, 0},
		{"abcdefFEDCBA", []int{5}, []int{5, 4, 3, 2, 1, 0}, []int{5, 4, 3, 2, 1, 0}, []int{11, 10, 9, 8, 7, 6, 5, 4, 3, 2, 1, 0}, 1, 1, 0},
		{"aabBAAcCddDD", []int{2, 6, 9}, []int{2, 1, 0, 0, 1, 0}, []int{9, 8, 6, 2, 1, 0}, []int{5, 4, 3, 2, 1, 0, 7, 6, 11, 10, 9, 8}, 1, 60, 0},
		{"aabbBBAAfFfF", []int{3, 8, 9, 10}, []int{3, 2, 1, 0, 0, 0}, []int{10, 8, 3, 2, 1, 0}, []int{7, 6, 5, 4, 3, 2, 1, 0, 9, 8, 11, 10}, 2, 45, 0},
		{"aaaAAAaaaAAA", []int{2, 5, 8}, []int{2, 1, 0, 2, 1, 0}, []int{8, 7, 6, 2, 1, 0}, []int{5, 4, 3, 2, 1, 0, 11, 10, 9, 8, 7, 6}, 4, 63, 0},
		{"abABbaBAcCdD", []int{3, 8, 10}, []int{3, 2, 1, 0, 0, 0}, []int{10, 8, 3, 2, 1, 0}, []int{7, 6, 5, 4, 3, 2, 1, 0, 9, 8, 11, 10}, 1, 30, 0},
		{"aAAaaAAaaAAa", []int{0, 2, 4, 6, 8, 10}, []int{0, 0, 0, 0, 0, 0}, []int{10, 8, 6, 4, 2, 0}, []int{1, 0, 3, 2, 5, 4, 7, 6, 9, 8, 11, 10}, 12, 1376, 0},
	}
}

// A word that is reduced to nothing has proofs, and others have none.
func TestProofsKnown(t *testing.T) {
	for _, c := range proofCases() {
		w := wordOf(c.text)
		cuts, ok := impl.CutsOf(w)
		wantWord(t, cuts, ok, c.cuts, "CutsOf", c.text)
		first, firstOK := impl.FirstProof(w)
		last, lastOK := impl.LastProof(w)
		if c.proofs == 0 {
			wantNone(t, first, firstOK, "FirstProof", c.text)
			wantNone(t, last, lastOK, "LastProof", c.text)
			continue
		}
		wantWord(t, first, firstOK, c.first, "FirstProof", c.text)
		wantWord(t, last, lastOK, c.last, "LastProof", c.text)
		checkProof(t, w, c.first, true)
		checkProof(t, w, c.last, true)
	}
}

func TestCutsKnown(t *testing.T) {
	for _, c := range []struct {
		w    []int
		want []int
	}{
		{nil, nil}, {[]int{}, nil},
		// Reduced words, and letters that are opposites, but not beside each other.
		{[]int{6}, nil}, {[]int{1, 1}, nil}, {[]int{1, -2}, nil}, {[]int{1, 2, -1, -2}, nil}, {repeated(3, 64), nil}, {repeated(-6, 63), nil},
		{[]int{1, 2, -1}, nil}, {[]int{1, 1, 2, -1, -1}, nil}, {slices.Repeat([]int{1, 2, -1, -2}, 16), nil},
		// A letter several times with opposites between.
		{[]int{1, -1, 1}, []int{0, 1}}, {[]int{-1, 1, -1, 1}, []int{0, 1, 2}}, {slices.Repeat([]int{5, -5}, 32), numbersTo(0, 62)},
		{[]int{1, 1, -1, 1, 1, -1, -1}, []int{1, 2, 4}},
		// Side by side.
		{[]int{1, -1, 2, -2}, []int{0, 2}}, {[]int{1, -1, -1, 1, 1, -1}, []int{0, 2, 4}}, {[]int{-2, 2, -3, 3, -4, 4}, []int{0, 2, 4}}, {[]int{1, -1, 6, 2, -2}, []int{0, 3}},
		// The first and the last places.
		{joined([]int{4, -4}, repeated(4, 62)), []int{0, 1}}, {joined(repeated(4, 63), []int{-4}), []int{62}}, {joined(repeated(-4, 32), repeated(4, 32)), []int{31}},
		{joined([]int{1, -1}, repeated(2, 60), []int{1, -1}), []int{0, 62}},
	} {
		got, ok := impl.CutsOf(c.w)
		wantWord(t, got, ok, c.want, "CutsOf", c.w)
	}
}

// Each place of a word is a cut or none, and MakeCut agrees with CutsOf.
func TestCutsOfManyWords(t *testing.T) {
	made := 0
	for _, w := range proofWords() {
		cuts, ok := impl.CutsOf(w)
		wantWord(t, cuts, ok, wantCuts(w), "CutsOf", w)
		for i := -2; i <= len(w)+2; i++ {
			got, ok := impl.MakeCut(w, i)
			if !slices.Contains(wantCuts(w), i) {
				wantNone(t, got, ok, "MakeCut", w, i)
				continue
			}
			wantWord(t, got, ok, afterCut(w, i), "MakeCut", w, i)
			if !slices.Equal(wantReduced(got), wantReduced(w)) {
				t.Errorf("MakeCut(%v, %d) = %v is reduced to another word", w, i, got)
			}
			made++
		}
	}
	if made < 5000 {
		t.Errorf("%d cuts", made)
	}
}

func TestMakeCutKnown(t *testing.T) {
	for _, c := range []struct {
		text string
		i    int
		want string
	}{
		{"aA", 0, ""}, {"Ff", 0, ""}, {"aAbB", 0, "bB"}, {"aAbB", 2, "aA"}, {"abcCd", 2, "abd"}, {"aAa", 0, "a"}, {"aAa", 1, "a"}, {"aAbc", 0, "bc"}, {"bcaA", 2, "bc"},
		// The cut gives a new one, which was none before.
		{"abBA", 1, "aA"}, {"cabBAC", 2, "caAC"}, {"AbBac", 1, "Aac"}, {"daAD", 1, "dD"}, {"aabBA", 2, "aaA"},
		// The cut takes one away.
		{"aAa", 1, "a"}, {"aAaA", 1, "aA"}, {"bAaAb", 1, "bAb"},
	} {
		got, ok := impl.MakeCut(wordOf(c.text), c.i)
		wantWord(t, got, ok, wordOf(c.want), "MakeCut", c.text, c.i)
	}
	long := joined(repeated(-4, 31), []int{2, -2}, repeated(4, 31))
	got, ok := impl.MakeCut(long, 31)
	wantWord(t, got, ok, joined(repeated(-4, 31), repeated(4, 31)), "MakeCut", long, 31)
	cuts, ok := impl.CutsOf(got)
	wantWord(t, cuts, ok, []int{30}, "CutsOf", got)
	got, ok = impl.MakeCut(joined(repeated(4, 63), []int{-4}), 62)
	wantWord(t, got, ok, repeated(4, 62), "MakeCut at the end")
	got, ok = impl.MakeCut(joined([]int{-4}, repeated(4, 63)), 0)
	wantWord(t, got, ok, repeated(4, 62), "MakeCut at the start")
}

func TestIsProofKnown(t *testing.T) {
	for _, c := range []struct {
		text string
		list []int
		want bool
	}{
		// The empty list proves the empty word alone.
		{"", nil, true}, {"", []int{}, true}, {"a", nil, false}, {"aA", nil, false}, {"abAB", nil, false}, {"aAbB", []int{}, false}, {"", []int{0}, false}, {"", []int{-1}, false},
		{"aA", []int{0}, true}, {"aA", []int{1}, false}, {"aA", []int{-1}, false}, {"aA", []int{2}, false}, {"aA", []int{0, 0}, false}, {"aA", []int{0, -1}, false}, {"aa", []int{0}, false}, {"aB", []int{0}, false},
		// The cuts of both proofs, others, and lists in another order.
		{"aAbB", []int{0, 0}, true}, {"aAbB", []int{2, 0}, true}, {"aAbB", []int{0, 2}, false}, {"aAbB", []int{1, 0}, false}, {"aAbB", []int{2, 2}, false}, {"aAbB", []int{2, 1}, false},
		{"aAaA", []int{0, 0}, true}, {"aAaA", []int{1, 0}, true}, {"aAaA", []int{2, 0}, true}, {"aAaA", []int{0, 1}, false}, {"aAaA", []int{0, 2}, false}, {"aAaA", []int{1, 2}, false},
		{"abBA", []int{1, 0}, true}, {"abBA", []int{0, 1}, false}, {"abBA", []int{1, 1}, false}, {"abBA", []int{0, 0}, false}, {"abBA", []int{2, 0}, false},
		{"abBAcC", []int{1, 2, 0}, true}, {"abBAcC", []int{4, 1, 0}, true}, {"abBAcC", []int{1, 0, 0}, true}, {"abBAcC", []int{1, 4, 0}, false}, {"abBAcC", []int{0, 1, 4}, false}, {"abBAcC", []int{0, 0, 1}, false},
		// Something is left, or nothing is left for the last numbers.
		{"aAbB", []int{0}, false}, {"aAbB", []int{2}, false}, {"abBA", []int{1}, false}, {"aAb", []int{0}, false}, {"baA", []int{1}, false}, {"abAB", []int{0, 0}, false},
		{"aAbB", []int{0, 0, 0}, false}, {"aAbB", []int{2, 0, -1}, false}, {"abBA", []int{1, 0, 1}, false},
	} {
		checkProof(t, wordOf(c.text), c.list, c.want)
	}
}

// All lists of numbers in and beside words of at most four letters, and of some of six.
func TestIsProofOfAllShortLists(t *testing.T) {
	proofs := 0
	for _, w := range shortWords(2, 4) {
		for _, list := range listsOf(numbersTo(-1, 4), 3) {
			want := wantProof(w, list)
			checkProof(t, w, list, want)
			proofs += one(want)
		}
	}
	for _, text := range []string{"aAaAaA", "abBAcC", "aAbBcC", "aAAaaA", "aaAAaA", "cabBAC", "cabABC", "aAaAaB", "aAbBcc"} {
		w := wordOf(text)
		count := 0
		for _, list := range listsOf(numbersTo(-1, 6), 4) {
			want := wantProof(w, list)
			checkProof(t, w, list, want)
			count += one(want)
		}
		told, ok := impl.CountProofs(w)
		checkNumber(t, told, ok, count, "CountProofs", text)
		proofs += count
	}
	if proofs < 60 {
		t.Errorf("%d proofs", proofs)
	}
}

// FirstProof and LastProof are proofs, and have half as many cuts as the word letters; lists like
// them are proofs or not by the definition.
func TestFirstAndLastProofsOfManyWords(t *testing.T) {
	vanish, differ, longest := 0, 0, 0
	for _, w := range proofWords() {
		firstCuts, _ := readForward(w)
		lastCuts := readBackward(w)
		first, firstOK := impl.FirstProof(w)
		last, lastOK := impl.LastProof(w)
		if len(wantReduced(w)) > 0 {
			wantNone(t, first, firstOK, "FirstProof", w)
			wantNone(t, last, lastOK, "LastProof", w)
			checkProof(t, w, firstCuts, false)
			checkProof(t, w, lastCuts, false)
			continue
		}
		wantWord(t, first, firstOK, firstCuts, "FirstProof", w)
		wantWord(t, last, lastOK, lastCuts, "LastProof", w)
		for _, proof := range [][]int{first, last} {
			checkProof(t, w, proof, true)
			if 2*len(proof) != len(w) {
				t.Errorf("%v has a proof of %d cuts", w, len(proof))
			}
		}
		vanish++
		differ += one(!slices.Equal(first, last))
		longest += one(len(w) == impl.MaxWord)
	}
	if vanish < 300 || differ < 200 || longest < 8 {
		t.Error(vanish, "words vanish,", differ, "proofs differ,", longest, "words are the longest")
	}
}

// Each cut of these proofs is the first or the last one of what is left, as CutsOf and MakeCut
// tell it.
func TestProofsAreMadeOfTheFirstAndTheLastCuts(t *testing.T) {
	for _, w := range vanishingWords() {
		first, _ := impl.FirstProof(w)
		last, _ := impl.LastProof(w)
		for _, c := range []struct {
			proof  []int
			choose func(cuts []int) int
		}{
			{first, func(cuts []int) int { return cuts[0] }},
			{last, func(cuts []int) int { return cuts[len(cuts)-1] }},
		} {
			left := w
			for _, i := range c.proof {
				cuts, ok := impl.CutsOf(left)
				if !ok || len(cuts) == 0 || c.choose(cuts) != i {
					t.Fatalf("%v has the cuts %v, %v, but the proof %v makes %d", left, cuts, ok, c.proof, i)
				}
				left, _ = impl.MakeCut(left, i)
			}
			if len(left) != 0 {
				t.Errorf("%v leaves %v of %v", c.proof, left, w)
			}
		}
	}
}

// Lists that differ a little from a proof, also of the longest words.
func TestIsProofOfChangedProofs(t *testing.T) {
	proofs, others := 0, 0
	for k, w := range vanishingWords() {
		// Of long words, each fourth one is enough.
		if len(w) > 24 && len(w) < 62 && k%4 != 0 {
			continue
		}
		first, _ := readForward(w)
		for _, proof := range [][]int{first, readBackward(w)} {
			for _, list := range changedLists(proof) {
				want := wantProof(w, list)
				checkProof(t, w, list, want)
				proofs += one(want)
				others += one(!want)
			}
		}
	}
	if proofs < 1000 || others < 5000 {
		t.Error(proofs, "proofs,", others, "others")
	}
}

// All proofs of a short word: the first one has the least cuts, and the last one the greatest.
func TestAllProofsOfShortWords(t *testing.T) {
	for _, w := range ofAtMost(proofWords(), 8) {
		proofs := allProofs(w)
		for _, proof := range proofs {
			checkProof(t, w, proof, true)
		}
		first, ok := impl.FirstProof(w)
		last, fine := impl.LastProof(w)
		if len(proofs) == 0 {
			wantNone(t, first, ok, "FirstProof", w)
			wantNone(t, last, fine, "LastProof", w)
			continue
		}
		wantWord(t, first, ok, slices.MinFunc(proofs, slices.Compare), "FirstProof", w)
		wantWord(t, last, fine, slices.MaxFunc(proofs, slices.Compare), "LastProof", w)
	}
}

// A word and its inverse behind it have a proof, a word and another reduced one have none.
func TestProofsOfWordsAndTheirInverses(t *testing.T) {
	for _, w := range longWords(3) {
		half := w[:min(len(w), 32)]
		closed := joined(half, opposite(half))
		want := []int{}
		for i := len(half) - 1; i >= 0; i-- {
			want = append(want, i)
		}
		got, ok := impl.FirstProof(closed)
		wantWord(t, got, ok, want, "FirstProof", closed)
		got, ok = impl.LastProof(closed)
		wantWord(t, got, ok, want, "LastProof", closed)
		if len(half) > 0 {
			got, ok = impl.FirstProof(joined(half, half))
			wantNone(t, got, ok, "FirstProof", half, half)
			got, ok = impl.LastProof(half)
			wantNone(t, got, ok, "LastProof", half)
		}
	}
}
