package tests

import (
	"math"
	"slices"
	"testing"

	"loop.example/g01206/impl"
)

func TestLimitsOfWords(t *testing.T) {
	if impl.MaxNails != 6 || impl.MaxWord != 64 {
		t.Error("limits", impl.MaxNails, impl.MaxWord)
	}
}

func TestIsWord(t *testing.T) {
	words := append(knownWords(), nil, []int{}, slices.Repeat([]int{1, -1}, 32))
	for letter := -9; letter <= 9; letter++ {
		valid := letter != 0 && letter >= -6 && letter <= 6
		if impl.IsWord([]int{letter}) != valid || impl.IsWord([]int{1, letter, -2}) != valid {
			t.Error("letter", letter)
		}
	}
	for _, w := range words {
		if !impl.IsWord(w) {
			t.Error("a word", w)
		}
	}
	for _, w := range noWords() {
		if impl.IsWord(w) {
			t.Error("no word", w)
		}
	}
}

func TestReduceWordKnown(t *testing.T) {
	known := []struct{ from, to []int }{
		{nil, nil}, {[]int{}, nil}, {[]int{1}, []int{1}}, {[]int{1, -1}, nil}, {[]int{-6, 6}, nil},
		{[]int{1, 1}, []int{1, 1}}, {[]int{1, 2, -2, 3}, []int{1, 3}}, {[]int{1, 2, -2, -1}, nil},
		{[]int{1, 2, -1, -2}, []int{1, 2, -1, -2}}, {[]int{1, -1, 1}, []int{1}}, {[]int{1, -1, -1}, []int{-1}},
		{[]int{1, 2, 3, -3, -2, -1, 4}, []int{4}}, {[]int{4, 1, -1, 2, -2, 3, -3}, []int{4}},
		{[]int{1, 2, -2, 1, -1, -1}, nil}, {[]int{1, 2, -1}, []int{1, 2, -1}},
		{joined(repeated(5, 32), repeated(-5, 32)), nil}, {slices.Repeat([]int{3, -3}, 32), nil},
		{joined(repeated(5, 33), repeated(-5, 31)), []int{5, 5}}, {repeated(2, 64), repeated(2, 64)},
		{joined(slices.Repeat([]int{1, 2, 3, 4}, 8), slices.Repeat([]int{-4, -3, -2, -1}, 8)), nil},
	}
	for _, k := range known {
		got, ok := impl.ReduceWord(k.from)
		wantWord(t, got, ok, k.to, "ReduceWord", k.from)
		is, ok := impl.IsReduced(k.from)
		if !ok || is != (len(k.from) == len(k.to)) {
			t.Errorf("IsReduced(%v) = %v, %v", k.from, is, ok)
		}
	}
}

func TestReduceWordIsOnceForAll(t *testing.T) {
	for _, w := range knownWords() {
		left, ok := impl.ReduceWord(w)
		wantWord(t, left, ok, wantReduced(w), "ReduceWord", w)
		again, ok := impl.ReduceWord(left)
		wantWord(t, again, ok, left, "ReduceWord again", left)
		if (len(w)-len(left))%2 != 0 {
			t.Error("an odd number of letters taken out", w, left)
		}
		is, ok := impl.IsReduced(w)
		if !ok || is != slices.Equal(w, left) {
			t.Errorf("IsReduced(%v) = %v, %v", w, is, ok)
		}
		if is, ok := impl.IsReduced(left); !ok || !is {
			t.Errorf("IsReduced(%v) = %v, %v", left, is, ok)
		}
	}
}

// In whatever order letters are taken out, one by one, the word that a word is reduced to stays.
func TestReduceWordInEachOrder(t *testing.T) {
	for _, w := range shortWords(2, 6) {
		left, _ := impl.ReduceWord(w)
		for i := range max(len(w)-1, 0) {
			if w[i] == -w[i+1] {
				got, ok := impl.ReduceWord(joined(w[:i], w[i+2:]))
				wantWord(t, got, ok, left, "ReduceWord of", w, "without", i)
			}
		}
	}
}

func TestInverseWord(t *testing.T) {
	got, ok := impl.InverseWord([]int{1, -1, 2, 2, -6})
	wantWord(t, got, ok, []int{6, -2, -2, 1, -1}, "not reduced")
	got, ok = impl.InverseWord(nil)
	wantWord(t, got, ok, nil, "the empty word")
	for _, w := range knownWords() {
		inverse, ok := impl.InverseWord(w)
		wantWord(t, inverse, ok, opposite(w), "InverseWord", w)
		back, ok := impl.InverseWord(inverse)
		wantWord(t, back, ok, w, "InverseWord twice", w)
		for _, pair := range [][2][]int{{w, inverse}, {inverse, w}} {
			product, ok := impl.JoinWords(pair[0], pair[1])
			wantWord(t, product, ok, nil, "the product with the inverse", pair)
		}
	}
}

func TestJoinWordsKnown(t *testing.T) {
	known := []struct{ u, v, product []int }{
		{nil, nil, nil}, {[]int{1}, nil, []int{1}}, {nil, []int{1}, []int{1}}, {[]int{1}, []int{-1}, nil},
		{[]int{1, 2}, []int{-2, 3}, []int{1, 3}}, {[]int{1, 2}, []int{-2, -1, 4}, []int{4}},
		{[]int{1, -1}, []int{2, 3, -3}, []int{2}}, {[]int{1, 2, -2}, []int{-1}, nil},
		{[]int{1, 2}, []int{3}, []int{1, 2, 3}}, {[]int{3}, []int{1, 2}, []int{3, 1, 2}},
		{repeated(1, 32), repeated(2, 32), joined(repeated(1, 32), repeated(2, 32))},
		{repeated(1, 64), nil, repeated(1, 64)}, {nil, repeated(1, 64), repeated(1, 64)},
		{repeated(1, 63), []int{1}, repeated(1, 64)}, {[]int{1}, repeated(1, 63), repeated(1, 64)},
		{repeated(1, 64), repeated(-1, 64), nil}, {repeated(1, 64), repeated(-1, 63), []int{1}},
		{slices.Repeat([]int{4, -4}, 32), repeated(1, 64), repeated(1, 64)},
		{repeated(1, 64), slices.Repeat([]int{4, -4}, 32), repeated(1, 64)},
		{joined(repeated(1, 32), repeated(2, 32)), joined(repeated(-2, 32), repeated(3, 32)),
			joined(repeated(1, 32), repeated(3, 32))},
		{joined(repeated(1, 63), []int{4}), []int{-4, 2}, joined(repeated(1, 63), []int{2})},
	}
	for _, k := range known {
		got, ok := impl.JoinWords(k.u, k.v)
		wantWord(t, got, ok, k.product, "JoinWords", k.u, k.v)
	}
}

func TestJoinWordsStopsAtMaxWord(t *testing.T) {
	refused := [][2][]int{
		{repeated(1, 64), {1}}, {{1}, repeated(1, 64)}, {repeated(1, 33), repeated(2, 32)},
		{repeated(1, 64), repeated(2, 64)}, {repeated(1, 64), {2, 3, -3}}, {{3, -3, 2}, repeated(1, 64)},
		{joined(repeated(1, 33), repeated(2, 31)), joined(repeated(-2, 31), repeated(3, 33))},
	}
	for _, r := range refused {
		got, ok := impl.JoinWords(r[0], r[1])
		wantNone(t, got, ok, "JoinWords", r)
	}
}

func TestJoinWordsOfAllPairs(t *testing.T) {
	words := append(shortWords(2, 3), variedWords()...)
	for _, u := range words {
		for _, v := range words {
			got, ok := impl.JoinWords(u, v)
			if want := wantReduced(joined(u, v)); len(want) <= impl.MaxWord {
				wantWord(t, got, ok, want, "JoinWords", u, v)
			} else {
				wantNone(t, got, ok, "JoinWords", u, v)
			}
		}
	}
}

func TestConjugateWordKnown(t *testing.T) {
	known := []struct{ g, w, conjugate []int }{
		{nil, nil, nil}, {nil, []int{1, 2, -2}, []int{1}}, {[]int{1}, nil, nil}, {[]int{1}, []int{1}, []int{1}},
		{[]int{1}, []int{2}, []int{1, 2, -1}}, {[]int{-1}, []int{1, 2, -1}, []int{2}},
		{[]int{1, 2}, []int{3}, []int{1, 2, 3, -2, -1}}, {[]int{2}, []int{-2, 1}, []int{1, -2}},
		{[]int{1, -1, 2}, []int{3, 4, -4}, []int{2, 3, -2}}, {repeated(1, 64), []int{5, -5}, nil},
		{repeated(1, 31), []int{2, 3}, joined(repeated(1, 31), []int{2, 3}, repeated(-1, 31))},
		{repeated(1, 31), []int{2}, joined(repeated(1, 31), []int{2}, repeated(-1, 31))},
		{repeated(1, 64), repeated(-1, 64), repeated(-1, 64)},
		// The product of the first two, or of the last two, has 104 letters.
		{repeated(1, 40), joined(repeated(2, 24), repeated(1, 40)), joined(repeated(1, 40), repeated(2, 24))},
		{repeated(-2, 40), joined(repeated(2, 40), repeated(1, 24)), joined(repeated(1, 24), repeated(2, 40))},
	}
	for _, k := range known {
		got, ok := impl.ConjugateWord(k.g, k.w)
		wantWord(t, got, ok, k.conjugate, "ConjugateWord", k.g, k.w)
	}
	refused := [][2][]int{
		{repeated(1, 32), {2, 3}}, {repeated(1, 32), {2}}, {repeated(1, 64), {2}}, {{2}, repeated(1, 64)},
		{repeated(1, 64), repeated(2, 64)}, {{2}, joined(repeated(1, 62), []int{3})},
	}
	for _, r := range refused {
		got, ok := impl.ConjugateWord(r[0], r[1])
		wantNone(t, got, ok, "ConjugateWord", r)
	}
}

func TestConjugateWordOfAllPairs(t *testing.T) {
	words := append(shortWords(2, 3), variedWords()...)
	for _, g := range words {
		for _, w := range words {
			got, ok := impl.ConjugateWord(g, w)
			if want := wantReduced(joined(g, w, opposite(g))); len(want) <= impl.MaxWord {
				wantWord(t, got, ok, want, "ConjugateWord", g, w)
			} else {
				wantNone(t, got, ok, "ConjugateWord", g, w)
			}
		}
	}
}

func TestPowerWordOfAllNumbers(t *testing.T) {
	for _, w := range knownWords() {
		for n := -8; n <= 8; n++ {
			base := w
			if n < 0 {
				base = opposite(w)
			}
			got, ok := impl.PowerWord(w, n)
			if want := wantReduced(slices.Repeat(base, max(n, -n))); len(want) <= impl.MaxWord {
				wantWord(t, got, ok, want, "PowerWord", w, n)
			} else {
				wantNone(t, got, ok, "PowerWord", w, n)
			}
		}
	}
}

func TestPowerWordEdges(t *testing.T) {
	eight := []int{1, 2, 3, 4, 5, 6, 1, 2}
	long := joined(repeated(1, 31), []int{2}, repeated(-1, 31))
	known := []struct {
		w     []int
		n     int
		power []int
	}{
		{[]int{1, 2}, 2, []int{1, 2, 1, 2}}, {[]int{1, 2}, -1, []int{-2, -1}}, {[]int{1, 2}, 0, nil}, {nil, 8, nil},
		{[]int{1, 2, -1}, 3, []int{1, 2, 2, 2, -1}}, {[]int{1}, 8, repeated(1, 8)}, {[]int{1}, -8, repeated(-1, 8)},
		{eight, 8, slices.Repeat(eight, 8)}, {eight, -8, slices.Repeat(opposite(eight), 8)},
		{repeated(3, 64), 1, repeated(3, 64)}, {repeated(3, 64), -1, repeated(-3, 64)}, {repeated(3, 64), 0, nil},
		{slices.Repeat([]int{3, -3}, 32), 8, nil}, {slices.Repeat([]int{3, -3}, 32), -8, nil},
		{long, 2, joined(repeated(1, 31), []int{2, 2}, repeated(-1, 31))},
		{long, -2, joined(repeated(1, 31), []int{-2, -2}, repeated(-1, 31))},
	}
	for _, k := range known {
		got, ok := impl.PowerWord(k.w, k.n)
		wantWord(t, got, ok, k.power, "PowerWord", k.w, k.n)
	}
	for _, n := range []int{3, -3, 8, -8} {
		got, ok := impl.PowerWord(long, n)
		wantNone(t, got, ok, "PowerWord", long, n)
		got, ok = impl.PowerWord(repeated(1, 33), n)
		wantNone(t, got, ok, "PowerWord", 33, n)
		got, ok = impl.PowerWord(joined(eight, []int{1}), n*8/max(n, -n))
		wantNone(t, got, ok, "PowerWord of nine letters", n)
	}
	for _, w := range [][]int{nil, {1}, {1, -1}, repeated(1, 64)} {
		for _, n := range []int{9, -9, 10, 64, -64, 1 << 16, -1 << 16, math.MaxInt, math.MinInt, math.MinInt + 1} {
			got, ok := impl.PowerWord(w, n)
			wantNone(t, got, ok, "PowerWord", w, n)
		}
	}
}

func TestPowersAdd(t *testing.T) {
	for _, w := range shortWords(2, 3) {
		for m := -4; m <= 4; m++ {
			for n := -4; n <= 4; n++ {
				first, _ := impl.PowerWord(w, m)
				second, _ := impl.PowerWord(w, n)
				both, ok := impl.PowerWord(w, m+n)
				product, fine := impl.JoinWords(first, second)
				if !ok || !fine || !slices.Equal(both, product) {
					t.Errorf("powers %d and %d of %v: %v and %v", m, n, w, both, product)
				}
			}
		}
	}
}
