package tests

import (
	"slices"
	"testing"

	"loop.example/g01206/impl"
)

func checkOrder(t *testing.T, w []int, want int) {
	t.Helper()
	got, ok := impl.OrderOf(w)
	checkNumber(t, got, ok, want, "OrderOf", w)
}

func TestOrdersKnown(t *testing.T) {
	for _, d := range deepWords() {
		w := wordOf(d.text)
		checkOrder(t, w, d.order)
		checkOrder(t, opposite(w), d.order)
		if len(w) <= 60 {
			// The same word, with letters that vanish ahead of it, within it and behind it.
			checkOrder(t, joined([]int{5, -5}, w, []int{-2, 2}), d.order)
			checkOrder(t, joined(w[:len(w)/2], []int{-6, 3, -3, 6}, w[len(w)/2:]), d.order)
		}
	}
	for letter := -6; letter <= 6; letter++ {
		if letter != 0 {
			checkOrder(t, repeated(letter, 64), 1)
			checkOrder(t, joined(repeated(letter, 32), repeated(-letter, 32)), 0)
		}
	}
	checkOrder(t, slices.Repeat([]int{1, 2, -1, -2}, 16), 2)
	checkOrder(t, slices.Repeat([]int{3, 6, -3, -6}, 16), 2)
	checkOrder(t, slices.Repeat(wordOf("abABcdCDbaBAdcDC"), 4), 4)
}

func TestOrdersAreThoseOfTheDefinition(t *testing.T) {
	met := [5]int{}
	for _, w := range append(windingWords(), reducedWords(2, 6)...) {
		want := wantOrder(w, wantTold(w))
		checkOrder(t, w, want)
		met[want]++
	}
	for order, count := range met {
		if count < 8 {
			t.Errorf("%d words of the order %d", count, order)
		}
	}
}

func TestOrdersGoWithBalanceAndFirstCoefficients(t *testing.T) {
	for _, w := range windingWords() {
		order, ok := impl.OrderOf(w)
		balanced, _ := impl.IsBalancedLoop(w)
		list, _, found := impl.FirstCoefficient(w)
		if !ok || balanced != (order != 1) || found != (order >= 1 && order <= 3) || found && len(list) != order {
			t.Errorf("%v: order %d, balanced %v, first %v, %v", w, order, balanced, list, found)
		}
	}
}

// conjugateTried tells whether a word has a conjugate by another one that is not too long, and
// checks this.
func conjugateTried(t *testing.T, g []int, w []int) bool {
	t.Helper()
	conjugate, ok := impl.ConjugateWord(g, w)
	if !ok {
		return false
	}
	order, _ := impl.OrderOf(w)
	checkOrder(t, conjugate, order)
	for _, list := range rowsOf(order) {
		was, _ := impl.CoefficientOf(w, list)
		got, ok := impl.CoefficientOf(conjugate, list)
		checkNumber(t, got, ok, was, "CoefficientOf", conjugate, list)
	}
	return true
}

func TestConjugatesHaveTheSameOrder(t *testing.T) {
	tried := [5]int{}
	for _, d := range deepWords() {
		for _, g := range append(shortWords(2, 3), wordOf("fab"), wordOf("cD"), wordOf("abABcbaBAC"), repeated(-3, 20), wordOf("eaEA")) {
			if conjugateTried(t, g, wordOf(d.text)) {
				tried[d.order]++
			}
		}
	}
	for order, count := range tried {
		if count < 100 {
			t.Errorf("%d conjugates of words of the order %d", count, order)
		}
	}
	for i, w := range windingWords() {
		conjugateTried(t, shortWords(3, 3)[i%250], w)
	}
}

// A commutator of words is of the order that their own have together, unless it is deeper.
func TestOrdersOfCommutators(t *testing.T) {
	met := map[[3]int]int{}
	words := [][]int{}
	for _, d := range deepWords() {
		words = append(words, wordOf(d.text))
	}
	words = append(words, shortWords(2, 3)...)
	for _, u := range words {
		for _, v := range words {
			product, ok := impl.CommutatorOf(u, v)
			if !ok {
				continue
			}
			order, _ := impl.OrderOf(product)
			ofU, _ := impl.OrderOf(u)
			ofV, _ := impl.OrderOf(v)
			met[[3]int{ofU, ofV, order}]++
			if order != 0 && order < min(4, ofU+ofV) || order == 1 || (ofU == 0 || ofV == 0) && order != 0 {
				t.Errorf("OrderOf(%v) = %d, of %v and %v with %d and %d", product, order, u, v, ofU, ofV)
			}
		}
	}
	for _, orders := range [][3]int{{1, 1, 2}, {1, 2, 3}, {2, 1, 3}, {1, 1, 3}, {1, 1, 0}, {2, 2, 4}, {3, 1, 4}, {1, 3, 4}, {1, 4, 4}, {2, 2, 0}, {0, 3, 0}} {
		if met[orders] == 0 {
			t.Errorf("no commutator of words of the orders %d and %d is of the order %d", orders[0], orders[1], orders[2])
		}
	}
}

func TestSameToOrderKnown(t *testing.T) {
	for _, k := range []struct {
		u, v  string
		order int
	}{
		// The greatest n for which they are the same; 3 if they are so for all.
		{"", "", 3}, {"", "aA", 3}, {"a", "a", 3}, {"a", "aBb", 3}, {"aA", "fF", 3}, {"abAB", "abcCAB", 3}, {"abBc", "Ddac", 3},
		{"", "a", 0}, {"a", "A", 0}, {"a", "b", 0}, {"a", "aa", 0}, {"aaa", "aa", 0}, {"ab", "aB", 0}, {"f", "e", 0}, {"", "F", 0}, {"abAB", "f", 0},
		{"ab", "ba", 1}, {"", "abAB", 1}, {"aab", "aba", 1}, {"abc", "cba", 1}, {"abc", "acb", 1}, {"abAB", "baBA", 1}, {"abAB", "cdCD", 1},
		{"a", "bceECaB", 1}, {"fE", "Ef", 1}, {"aabbAABB", "abAB", 1}, {"aabb", "abab", 1}, {"efEF", "", 1},
		{"", "abABcbaBAC", 2}, {"cabAB", "abABc", 2}, {"abAB", "aBAbabAB", 1}, {"", "aBAbabAB", 2}, {"abAB", "bABa", 2}, {"abAB", "cabABC", 2}, {"abABcdCD", "cdCDabAB", 3},
		{"aabABA", "abAB", 2}, {"abABabaBAA", "", 2}, {"abABf", "fabAB", 2}, {"abba", "baab", 2}, {"dedEDfdeDEFD", "", 2},
		{"", "abABcdCDbaBAdcDC", 3}, {"", "abABcbaBACdcabABCbaBAD", 3}, {"dabABcbaBAC", "abABcbaBACd", 3}, {"e", "eabABcdCDbaBAdcDC", 3},
	} {
		for n := range 4 {
			got, ok := impl.SameToOrder(wordOf(k.u), wordOf(k.v), n)
			checkFlag(t, got, ok, n <= k.order, "SameToOrder", k.u, k.v, n)
			got, ok = impl.SameToOrder(wordOf(k.v), wordOf(k.u), n)
			checkFlag(t, got, ok, n <= k.order, "SameToOrder", k.v, k.u, n)
		}
	}
}

// someWords are of all lengths and orders, and many of them are the same to some order.
func someWords() [][]int {
	words := shortWords(2, 3)
	for i, w := range variedWords() {
		if i%5 == 0 {
			words = append(words, w)
		}
	}
	for _, d := range deepWords() {
		words = append(words, wordOf(d.text), joined([]int{1, 2}, wordOf(d.text)), joined(wordOf(d.text), []int{1, 2}))
	}
	return words
}

func TestSameToOrderIsThatOfTheDefinition(t *testing.T) {
	words := someWords()
	tables := []*told{}
	for _, w := range words {
		tables = append(tables, wantTold(w))
	}
	rows := [4][][]int{}
	for n := range rows {
		rows[n] = slices.DeleteFunc(nailRows(), func(list []int) bool { return len(list) > n })
	}
	met := [4]int{}
	for i, u := range words {
		for j, v := range words {
			if (i+j)%3 != 0 {
				continue
			}
			for n := range rows {
				want := wantSame(tables[i], tables[j], rows[n])
				got, ok := impl.SameToOrder(u, v, n)
				checkFlag(t, got, ok, want, "SameToOrder", u, v, n)
				if want {
					met[n]++
				}
			}
		}
	}
	if met[0] <= met[1] || met[1] <= met[2] || met[2] <= met[3] || met[3] < 300 {
		t.Error("pairs that are the same to orders", met)
	}
}

func TestWordsAreTheSameToAllOrdersAsWhatTheyAreReducedTo(t *testing.T) {
	for _, w := range windingWords() {
		for n := range 4 {
			got, ok := impl.SameToOrder(w, wantReduced(w), n)
			checkFlag(t, got, ok, true, "SameToOrder", w, "reduced", n)
		}
		anything, ok := impl.SameToOrder(w, []int{6, -5}, 0)
		checkFlag(t, anything, ok, true, "SameToOrder", w, "fE", 0)
	}
}

// A word and a commutator behind it are the same to the order before that of the commutator.
func TestWordsWithDeepWordsBehindThem(t *testing.T) {
	for _, d := range deepWords() {
		for _, w := range [][]int{nil, {1}, {-2}, {3, 1, -3}, {4, 5, 6}, repeated(-1, 20)} {
			longer := joined(w, wordOf(d.text))
			for n := range 4 {
				got, ok := impl.SameToOrder(longer, w, n)
				checkFlag(t, got, ok, d.order == 0 || n < d.order, "SameToOrder", longer, w, n)
			}
		}
	}
}
