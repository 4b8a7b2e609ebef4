package tests

import (
	"slices"
	"testing"

	"loop.example/g01206/impl"
)

func TestTrimWordKnown(t *testing.T) {
	known := []struct{ w, want string }{
		{"", ""}, {"aA", ""}, {"abcCBA", ""}, {much("fF", 32), ""}, {much("a", 32) + much("A", 32), ""},
		{"a", "a"}, {"F", "F"}, {"aa", "a"}, {"abBa", "a"}, {much("b", 64), "b"}, {"aBbA" + much("C", 60), "C"},
		// Nothing can be taken out: what goes away with some set has each letter as often as its opposite.
		{"ab", "ab"}, {"BA", "BA"}, {"abcdef", "abcdef"}, {"abAB", "abAB"}, {"abABcbaBAC", "abABcbaBAC"},
		{"abcACB", "abcACB"}, {"abABcdCDbaBAdcDC", "abABcdCDbaBAdcDC"}, {"baB", "baB"}, {"bbaBB", "bbaBB"},
		{"cabABC", "cabABC"}, {"aabABA", "aabABA"}, {"abABabAB", "abABabAB"}, {"abcBC", "abcBC"},
		// Of several letters, the first one is taken out, and those behind it stay.
		{"aba", "ba"}, {"abab", "ab"}, {"aab", "ab"}, {"abb", "ab"}, {"abca", "bca"}, {"abcabc", "abc"}, {"abcba", "cba"},
		{"aBaB", "aB"}, {"abaB", "baB"}, {"abcBCa", "bcBCa"}, {"bcBCaaa", "bcBCa"},
		// Not the first one, but one behind it, with more that vanishes.
		{"abAcab", "cab"}, {"cabC", "cabC"}, {"eedDEfabAcabF", "efcabF"},
	}
	for _, k := range known {
		got, ok := impl.TrimWord(wordOf(k.w))
		wantWord(t, got, ok, wordOf(k.want), "TrimWord", k.w)
	}
}

// trimWords are words that are not too long to be trimmed by the document's definition alone.
func trimWords() [][]int {
	words := append(shortWords(2, 5), shortWords(3, 3)...)
	for _, c := range edgeCases() {
		if len(c.w) <= 40 {
			words = append(words, c.w, opposite(c.w), joined(c.w, c.w[:len(c.w)/2]))
		}
	}
	for _, w := range variedWords() {
		if len(w) <= 22 {
			words = append(words, w, joined(w, reversed(w)))
		}
	}
	for _, u := range shortWords(3, 2) {
		words = append(words, commutator(u, []int{1, 2}), joined(u, []int{2, 1, -2, -1}, u))
	}
	return words
}

func TestTrimWordAsTheDocumentTells(t *testing.T) {
	for _, w := range trimWords() {
		got, ok := impl.TrimWord(w)
		wantWord(t, got, ok, wantTrimmed(w), "TrimWord", w)
	}
}

// A word that is trimmed falls for the same sets, and no letter more can be taken out of it.
func TestTrimmedWordsFallForTheSameSets(t *testing.T) {
	words := append(fallWords(), slices.Repeat([]int{1, 2, -1, -2}, 16), slices.Repeat([]int{1, 2, 3, 4, 5, 6}, 10))
	for _, w := range words {
		got, ok := impl.TrimWord(w)
		reduced, _ := impl.IsReduced(got)
		alike, _ := impl.FallAlike(w, got)
		if !ok || !reduced || !alike || len(got) > len(w) {
			t.Errorf("TrimWord(%v) = %v, %v: reduced %v, alike %v", w, got, ok, reduced, alike)
		}
		for i := range got {
			rest := joined(got[:i], got[i+1:])
			if alike, _ := impl.FallAlike(w, rest); alike {
				t.Errorf("TrimWord(%v) = %v, but %v falls for the same sets", w, got, rest)
			}
		}
		again, ok := impl.TrimWord(got)
		wantWord(t, again, ok, got, "TrimWord of TrimWord of", w)
	}
}

// What a word is reduced to is trimmed, whatever it was reduced from.
func TestTrimWordReducesFirst(t *testing.T) {
	for _, w := range knownWords() {
		got, ok := impl.TrimWord(w)
		want, fine := impl.TrimWord(wantReduced(w))
		if !fine {
			t.Errorf("TrimWord(%v) failed", wantReduced(w))
		}
		wantWord(t, got, ok, want, "TrimWord", w)
	}
}
