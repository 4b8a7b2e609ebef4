package tests

import (
	"slices"
	"testing"

	"loop.example/g01206/impl"
)

func TestCountsOfProofsKnown(t *testing.T) {
	for _, c := range proofCases() {
		w := wordOf(c.text)
		pairings, ok := impl.CountPairings(w)
		checkNumber(t, pairings, ok, c.pairings, "CountPairings", c.text)
		proofs, ok := impl.CountProofs(w)
		checkNumber(t, proofs, ok, c.proofs, "CountProofs", c.text)
		least, ok := impl.LeastLetters(w)
		checkNumber(t, least, ok, c.least, "LeastLetters", c.text)
	}
}

// Words of 13..20 letters, counted by a separate program.
func TestCountPairingsOfLongWordsKnown(t *testing.T) {
	for text, want := range map[string]int{
		long("aA", 10): 16796, long("Aa", 10): 16796, long("a", 10) + long("A", 10): 1, long("aaaaaAAAAA", 2): 6, long("aAbB", 5): 273, long("aAAa", 5): 273, long("aaAA", 5): 273,
		long("abBA", 5): 273, long("aA", 9) + "bB": 4862, long("abBAaA", 3) + "aA": 687, "aAbBcCdDeEfFaAbBcCdD": 5, "abABbaBA" + long("aA", 6): 429, long("aaaAAA", 3) + "aA": 52,
		long("ab", 5) + long("BA", 5): 1, long("aA", 9) + "ab": 0, long("aA", 9) + "a": 0, long("aA", 9): 4862, "abcdefFEDCBAaAbBaAbB": 7, "aaAaAAaaAaAAaaAaAAaA": 520,
		// Words that do not vanish, although each nail has as many turns as opposites.
		long("abAB", 5): 0, long("abAB", 4) + "abBA": 0, "ab" + long("aA", 7) + "AB": 0,
		// Odd lengths.
		long("aA", 6) + "a": 0, long("aA", 8) + "A": 0, "f" + long("eE", 9): 0, "a": 0, "aAa": 0,
	} {
		got, ok := impl.CountPairings(wordOf(text))
		checkNumber(t, got, ok, want, "CountPairings", text)
	}
}

// One letter and its opposite in turn: the numbers of Catalan, and the products of odd numbers.
func TestCountsOfALetterAndItsOppositeInTurn(t *testing.T) {
	catalan := []int{1, 1, 2, 5, 14, 42, 132, 429, 1430, 4862, 16796}
	for half, want := range catalan {
		for _, pair := range []string{"aA", "Ff"} {
			got, ok := impl.CountPairings(wordOf(long(pair, half)))
			checkNumber(t, got, ok, want, "CountPairings", pair, half)
		}
	}
	odd := 1
	for half := range 7 {
		got, ok := impl.CountProofs(wordOf(long("cC", half)))
		checkNumber(t, got, ok, odd, "CountProofs", half)
		odd *= 2*half + 1
	}
}

// Counted in another way: over all pairs of opposites, and over parts of the word; greater than 0
// exactly for words that are reduced to nothing.
func TestCountPairingsOfManyWords(t *testing.T) {
	some, none, tooLong := 0, 0, 0
	for _, w := range proofWords() {
		got, ok := impl.CountPairings(w)
		if len(w) > 20 {
			checkNoNumber(t, got, ok, "CountPairings", w)
			tooLong++
			continue
		}
		checkNumber(t, got, ok, pairingsByEnds(w), "CountPairings", w)
		if len(w) <= 10 {
			checkNumber(t, got, ok, len(fullPairings(w)), "CountPairings", w)
		}
		_, hasProof := impl.FirstProof(w)
		if vanishes := len(wantReduced(w)) == 0; (got > 0) != vanishes || hasProof != vanishes {
			t.Errorf("CountPairings(%v) = %d, and it has a proof: %v", w, got, hasProof)
		}
		some += one(got > 0)
		none += one(got == 0)
	}
	if some < 200 || none < 500 || tooLong < 300 {
		t.Error(some, "words with pairings,", none, "without,", tooLong, "too long")
	}
}

func TestCountsStopAtTheirLengths(t *testing.T) {
	for _, pair := range []string{"aA", "Bb", "fF", "cc", "ab"} {
		for size := range impl.MaxWord + 1 {
			w := wordOf(long(pair, 32))[:size]
			got, ok := impl.CountPairings(w)
			if size <= 20 {
				checkNumber(t, got, ok, pairingsByEnds(w), "CountPairings", w)
			} else {
				checkNoNumber(t, got, ok, "CountPairings", w)
			}
			got, ok = impl.CountProofs(w)
			if size <= 12 {
				checkNumber(t, got, ok, proofsByPairings(w), "CountProofs", w)
			} else {
				checkNoNumber(t, got, ok, "CountProofs", w)
			}
		}
	}
	if impl.MaxPairing != 20 {
		t.Errorf("MaxPairing is %d", impl.MaxPairing)
	}
}

// Counted in another way: by the pairings, and, for the shortest ones, as a list.
func TestCountProofsOfManyWords(t *testing.T) {
	some, none, tooLong := 0, 0, 0
	for _, w := range proofWords() {
		got, ok := impl.CountProofs(w)
		if len(w) > 12 {
			checkNoNumber(t, got, ok, "CountProofs", w)
			tooLong++
			continue
		}
		checkNumber(t, got, ok, proofsByPairings(w), "CountProofs", w)
		if len(w) <= 8 {
			checkNumber(t, got, ok, len(allProofs(w)), "CountProofs", w)
		}
		if (got > 0) != (len(wantReduced(w)) == 0) {
			t.Errorf("CountProofs(%v) = %d", w, got)
		}
		some += one(got > 0)
		none += one(got == 0)
	}
	if some < 200 || none < 500 || tooLong < 500 {
		t.Error(some, "words with proofs,", none, "without,", tooLong, "too long")
	}
}

func TestLeastLettersKnown(t *testing.T) {
	for text, want := range map[string]int{
		"": 0, "aA": 0, "fAaF": 0, "abABbaBA": 0,
		// Words that hang by one nail, whatever others they have.
		"a": 1, "F": 1, "aaaaaa": 1, "fbF": 1, "abaB": 1, "aBAbB": 1, long("a", 64): 1,
		// Each nail must be out.
		"ab": 2, "aabb": 2, "ababab": 2, "cac": 2, "abcdef": 6, "FEDCBA": 6,
		// Any one of several, and such with others.
		"abAB": 4, "cabABC": 4, "abABc": 5, "cabAB": 5, "abcBC": 5, "abcdBC": 6, "abABacACbcBC": 6, "abcABC": 6, "abcACB": 6, "abacBACA": 6, "abABcdCD": 8, "abcdBADC": 8,
		"abABcdCDbaBAdcDC": 8, "abABcdCDef": 10, "abcdefDCFE": 10, "eabcdCDBAdcDCf": 10,
		// Six nails, of which none must be out.
		"abcdefCBAFED": 12, "abABcdCDefEF": 12,
	} {
		got, ok := impl.LeastLetters(wordOf(text))
		checkNumber(t, got, ok, want, "LeastLetters", text)
	}
}

// wantLeast is the sum over the nails that matter, by the document's definition.
func wantLeast(w []int) int {
	falls := wantFalls(w)
	sum := 0
	for nail := 1; nail <= 6; nail++ {
		matters, always := false, true
		for set := range 64 {
			if inSet(nail, set) {
				continue
			}
			matters = matters || !falls[set] && falls[set+oneNail(nail)]
			always = always && !falls[set]
		}
		switch {
		case matters && always:
			sum++
		case matters:
			sum += 2
		}
	}
	return sum
}

func TestLeastLettersOfManyWords(t *testing.T) {
	met := map[int]int{}
	for _, w := range append(append(proofWords(), fallWords()...), longWords(6)...) {
		want := wantLeast(w)
		got, ok := impl.LeastLetters(w)
		checkNumber(t, got, ok, want, "LeastLetters", w)
		if got > len(wantReduced(w)) {
			t.Errorf("LeastLetters(%v) = %d are more than its own", w, got)
		}
		met[want]++
	}
	if len(met) < 10 || met[0] < 100 || met[12] == 0 {
		t.Error("sums", met)
	}
}

// Of the edge cases of chapter 3, the nails that are in all least sets must be out.
func TestLeastLettersOfEdgeCases(t *testing.T) {
	for _, c := range edgeCases() {
		always := 63
		for _, set := range c.least {
			always &= set
		}
		got, ok := impl.LeastLetters(c.w)
		checkNumber(t, got, ok, 2*wantSize(c.matter)-wantSize(always), "LeastLetters", c.w)
	}
}

// Words that fall for the same sets have one number, and none of them is shorter.
func TestNoWordWithTheSameFallsIsShorter(t *testing.T) {
	shortest := map[[64]bool]int{}
	numbers := map[[64]bool]int{}
	words := append(shortWords(2, 6), shortWords(3, 4)...)
	for _, w := range append(words, shortWords(6, 2)...) {
		falls := wantFalls(w)
		got, ok := impl.LeastLetters(w)
		if _, met := numbers[falls]; !met {
			shortest[falls], numbers[falls] = len(w), got
		}
		shortest[falls] = min(shortest[falls], len(w))
		checkNumber(t, got, ok, numbers[falls], "LeastLetters", w)
	}
	reached := 0
	for falls, number := range numbers {
		if shortest[falls] < number {
			t.Errorf("LeastLetters are %d, but there is a word of %d", number, shortest[falls])
		}
		reached += one(shortest[falls] == number)
	}
	if reached < 10 {
		t.Errorf("%d of %d numbers are reached", reached, len(numbers))
	}
}

// Opposites, conjugates and what chapter 6 makes of a word fall for the same sets.
func TestLeastLettersOfWordsThatFallAlike(t *testing.T) {
	for _, w := range fallWords() {
		want, ok := impl.LeastLetters(w)
		if !ok {
			t.Fatalf("LeastLetters(%v) failed", w)
		}
		got, ok := impl.LeastLetters(opposite(w))
		checkNumber(t, got, ok, want, "LeastLetters", "the inverse of", w)
		trimmed, _ := impl.TrimWord(w)
		got, ok = impl.LeastLetters(trimmed)
		checkNumber(t, got, ok, want, "LeastLetters", trimmed)
		if len(trimmed) < want {
			t.Errorf("LeastLetters(%v) = %d, but %v falls for the same sets", w, want, trimmed)
		}
		if len(w) <= 62 {
			got, ok = impl.LeastLetters(slices.Concat([]int{-4}, w, []int{4}))
			checkNumber(t, got, ok, want, "LeastLetters", "a conjugate of", w)
		}
	}
}
