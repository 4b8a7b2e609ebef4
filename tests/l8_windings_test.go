package tests

import (
	"fmt"
	"slices"
	"strings"
	"testing"

	"loop.example/g01206/impl"
)

// wantWindings are how many letters n there are, less the letters -n.
func wantWindings(w []int) [7]int {
	windings := [7]int{}
	for _, letter := range w {
		for nail := 1; nail <= 6; nail++ {
			switch letter {
			case nail:
				windings[nail]++
			case -nail:
				windings[nail]--
			}
		}
	}
	return windings
}

func checkWindings(t *testing.T, w []int, want [7]int) {
	t.Helper()
	got, ok := impl.WindingsOf(w)
	if !ok || got != want {
		t.Errorf("WindingsOf(%v) = %v, %v, not %v", w, got, ok, want)
	}
}

func TestWindingsKnown(t *testing.T) {
	for text, want := range map[string][7]int{
		"": {}, "a": {0, 1}, "A": {0, -1}, "f": {0, 0, 0, 0, 0, 0, 1}, "F": {0, 0, 0, 0, 0, 0, -1}, "aaB": {0, 2, -1},
		"aA": {}, "Aa": {}, "aAa": {0, 1}, "AaA": {0, -1}, "abAB": {}, "abcabC": {0, 2, 2}, "bAcAbA": {0, -3, 2, 1},
		"abcdef": {0, 1, 1, 1, 1, 1, 1}, "FEDCBA": {0, -1, -1, -1, -1, -1, -1}, "aBcDeF": {0, 1, -1, 1, -1, 1, -1},
		"bbbABcA": {0, -2, 2, 1}, "eFeFe": {0, 0, 0, 0, 0, 3, -2}, "dDdD": {}, "cCCbBB": {0, 0, -1, -1},
	} {
		checkWindings(t, wordOf(text), want)
	}
	for nail := 1; nail <= 6; nail++ {
		full := [7]int{}
		full[nail] = 64
		checkWindings(t, repeated(nail, 64), full)
		full[nail] = -64
		checkWindings(t, repeated(-nail, 64), full)
		full[nail] = 16
		checkWindings(t, joined(repeated(nail, 40), repeated(-nail, 24)), full)
		checkWindings(t, joined(repeated(nail, 32), repeated(-nail, 32)), [7]int{})
		checkWindings(t, slices.Repeat([]int{-nail, nail}, 32), [7]int{})
	}
}

func TestWindingsAreThoseOfTheLetters(t *testing.T) {
	for _, w := range windingWords() {
		windings, _ := impl.WindingsOf(w)
		checkWindings(t, w, wantWindings(w))
		checkWindings(t, wantReduced(w), windings)
		for nail := 1; nail <= 6; nail++ {
			got, ok := impl.CoefficientOf(w, []int{nail})
			checkNumber(t, got, ok, windings[nail], "CoefficientOf", w, nail)
		}
		if windings[0] != 0 {
			t.Errorf("WindingsOf(%v) has %d at the place 0", w, windings[0])
		}
	}
}

func TestWindingsOfProductsAreSums(t *testing.T) {
	products := 0
	words := windingWords()
	for i, u := range words {
		for _, v := range [][]int{words[(i*7+3)%len(words)], words[(i*31+40)%len(words)], opposite(u), u} {
			product, ok := impl.JoinWords(u, v)
			if !ok {
				continue
			}
			products++
			sum, ofV := wantWindings(u), wantWindings(v)
			for nail := range sum {
				sum[nail] += ofV[nail]
			}
			checkWindings(t, product, sum)
		}
	}
	if products < 1000 {
		t.Error("products", products)
	}
}

func TestBalancedLoopsKnown(t *testing.T) {
	for text, want := range map[string]bool{
		"": true, "aA": true, "Ff": true, "abBA": true, "aAbBcC": true, "a": false, "A": false, "f": false, "F": false, "aa": false,
		"ab": false, "aB": false, "Ab": false, "abAB": true, "baBA": true, "abcABC": true, "abCAcB": true, "abABcbaBAC": true,
		"abcBAC": true, "abA": false, "bab": false, "abABc": false, "abABF": false, "CabAB": false, "aabAB": false, "abAb": false,
		"abAAB": false, "abcdefABCDEF": true, "abcdefABCDE": false, "bcdefBCDEFA": false, "aBAbaB": false, "aaBBAAbb": true, "aBcAbC": true,
		// Sums over all nails of 0, but not for each of them.
		"aF": false, "bC": false, "aaBC": false, "abcDEF": false,
	} {
		got, ok := impl.IsBalancedLoop(wordOf(text))
		checkFlag(t, got, ok, want, "IsBalancedLoop", text)
	}
	for letter := -6; letter <= 6; letter++ {
		if letter != 0 {
			got, ok := impl.IsBalancedLoop(repeated(letter, 64))
			checkFlag(t, got, ok, false, "IsBalancedLoop of 64 letters", letter)
			got, ok = impl.IsBalancedLoop(joined(repeated(letter, 32), repeated(-letter, 32)))
			checkFlag(t, got, ok, true, "IsBalancedLoop of 32 and 32 letters", letter)
		}
	}
}

func TestBalancedLoopsHaveNoWindings(t *testing.T) {
	for _, w := range windingWords() {
		got, ok := impl.IsBalancedLoop(w)
		checkFlag(t, got, ok, wantWindings(w) == [7]int{}, "IsBalancedLoop", w)
	}
	for _, u := range shortWords(3, 3) {
		for _, v := range [][]int{u, {1}, {-2, 3}, {3, 3}} {
			product, _ := impl.CommutatorOf(u, v)
			got, ok := impl.IsBalancedLoop(product)
			checkFlag(t, got, ok, true, "IsBalancedLoop", product)
		}
	}
}

func checkWindingText(t *testing.T, w []int, want string) {
	t.Helper()
	got, ok := impl.WindingText(w)
	if !ok || got != want {
		t.Errorf("WindingText(%v) = %q, %v, not %q", w, got, ok, want)
	}
}

func TestWindingTextKnown(t *testing.T) {
	for text, want := range map[string]string{
		"": "-", "aA": "-", "abAB": "-", "fF": "-", "a": "a1", "A": "a-1", "f": "f1", "F": "f-1", "aaB": "a2 b-1", "Baa": "a2 b-1",
		"ba": "a1 b1", "fa": "a1 f1", "FbE": "b1 e-1 f-1", "abcdef": "a1 b1 c1 d1 e1 f1", "FEDCBA": "a-1 b-1 c-1 d-1 e-1 f-1",
		"cbCa": "a1 b1", "edcED": "c1", "fFe": "e1", "aAB": "b-1", "FaFaaF": "a3 f-3", "dd": "d2",
		"ccccccccccBBBBBBBBBBBB": "b-12 c10", "aaaaaaaaaB": "a9 b-1", "DDDDDDDDDDDDDDDDDDDDDDDa": "a1 d-23",
	} {
		checkWindingText(t, wordOf(text), want)
	}
	checkWindingText(t, repeated(1, 64), "a64")
	checkWindingText(t, repeated(-6, 64), "f-64")
	checkWindingText(t, joined(repeated(6, 20), repeated(-5, 11), repeated(4, 10), repeated(-3, 10), repeated(2, 9), repeated(-1, 4)), "a-4 b9 c-10 d10 e-11 f20")
	checkWindingText(t, joined(repeated(2, 40), repeated(-2, 24)), "b16")
}

func TestWindingTextTellsTheWindings(t *testing.T) {
	for _, w := range windingWords() {
		parts := []string{}
		for nail, winding := range wantWindings(w) {
			if winding != 0 {
				parts = append(parts, fmt.Sprintf("%c%d", " abcdef"[nail], winding))
			}
		}
		if len(parts) == 0 {
			parts = []string{"-"}
		}
		checkWindingText(t, w, strings.Join(parts, " "))
		checkWindingText(t, wantReduced(w), strings.Join(parts, " "))
	}
}
