package tests

import (
	"slices"
	"testing"

	"loop.example/g01206/impl"
)

func TestCommutatorOfKnown(t *testing.T) {
	known := []struct{ u, v, want []int }{
		{nil, nil, nil}, {nil, []int{1}, nil}, {[]int{1}, nil, nil}, {[]int{1}, []int{2}, []int{1, 2, -1, -2}},
		{[]int{2}, []int{1}, []int{2, 1, -2, -1}}, {[]int{-1}, []int{2}, []int{-1, 2, 1, -2}},
		{[]int{1}, []int{-6}, []int{1, -6, -1, 6}}, {[]int{1}, []int{1}, nil}, {[]int{1}, []int{-1}, nil},
		{[]int{1, 1}, []int{1}, nil}, {[]int{1, 2}, []int{1, 2}, nil}, {[]int{1, 2}, []int{-2, -1}, nil},
		{[]int{1, 2}, []int{2}, []int{1, 2, -1, -2}}, {[]int{1}, []int{1, 2}, []int{1, 1, 2, -1, -2, -1}},
		{[]int{1, 2}, []int{3}, []int{1, 2, 3, -2, -1, -3}}, {[]int{1}, []int{2, 3}, []int{1, 2, 3, -1, -3, -2}},
		{[]int{1, -1}, []int{2}, nil}, {[]int{2}, []int{3, 1, -1, -3}, nil},
		{[]int{1, 4, -4}, []int{-5, 5, 2}, []int{1, 2, -1, -2}}, {repeated(1, 64), repeated(1, 64), nil},
		{repeated(1, 64), repeated(-1, 64), nil}, {repeated(1, 64), repeated(-1, 5), nil}, {repeated(1, 64), nil, nil},
		{slices.Repeat([]int{1, -1}, 32), repeated(2, 64), nil},
		{slices.Repeat([]int{1, 2}, 32), slices.Repeat([]int{-2, -1}, 20), nil},
		{repeated(1, 16), repeated(2, 16), rawCommutator(repeated(1, 16), repeated(2, 16))},
		{[]int{1}, repeated(2, 31), rawCommutator([]int{1}, repeated(2, 31))},
		{repeated(-3, 31), []int{6}, rawCommutator(repeated(-3, 31), []int{6})},
		{joined(repeated(2, 15), repeated(5, 24), repeated(-5, 24), []int{2}), repeated(3, 16),
			rawCommutator(repeated(2, 16), repeated(3, 16))},
		// 86 letters, of which 42 vanish.
		{joined(repeated(1, 20), []int{2}), joined(repeated(1, 21), []int{2}),
			joined(repeated(1, 20), []int{2, 1, -2}, repeated(-1, 21))},
	}
	for _, k := range known {
		got, ok := impl.CommutatorOf(k.u, k.v)
		wantWord(t, got, ok, k.want, "CommutatorOf", k.u, k.v)
	}
}

func TestCommutatorOfStopsAtMaxWord(t *testing.T) {
	refused := [][2][]int{
		{repeated(1, 16), repeated(2, 17)}, {repeated(1, 17), repeated(2, 16)}, {{1}, repeated(2, 32)},
		{repeated(2, 32), {1}}, {repeated(1, 64), {2}}, {{2}, repeated(1, 64)}, {repeated(1, 64), repeated(2, 64)},
		{slices.Repeat([]int{1, 2}, 16), slices.Repeat([]int{2, 1}, 15)}, {repeated(1, 33), {5, -5, 4}},
	}
	for _, r := range refused {
		got, ok := impl.CommutatorOf(r[0], r[1])
		wantNone(t, got, ok, "CommutatorOf", r)
	}
}

func TestCommutatorOfAllPairs(t *testing.T) {
	words := append(shortWords(2, 3), variedWords()...)
	for _, u := range words {
		for _, v := range words {
			got, ok := impl.CommutatorOf(u, v)
			if want := commutator(u, v); len(want) <= impl.MaxWord {
				wantWord(t, got, ok, want, "CommutatorOf", u, v)
			} else {
				wantNone(t, got, ok, "CommutatorOf", u, v)
			}
		}
	}
}

func TestCommutatorTurnedRoundIsItsInverse(t *testing.T) {
	words := append(append(shortWords(2, 3), shortWords(6, 1)...), variedWords()...)
	for i, u := range words {
		for j := i % 3; j < len(words); j += 3 {
			v := words[j]
			got, ok := impl.CommutatorOf(u, v)
			turned, fine := impl.CommutatorOf(v, u)
			if ok != fine || !slices.Equal(turned, opposite(got)) {
				t.Errorf("commutators of %v and %v: %v, %v and %v, %v", u, v, got, ok, turned, fine)
			}
			if product, joins := impl.JoinWords(got, turned); !joins || len(product) != 0 {
				t.Errorf("both commutators of %v and %v make %v", u, v, product)
			}
		}
	}
}

func TestCommutatorOfAWordAndItself(t *testing.T) {
	for _, w := range knownWords() {
		for _, v := range [][]int{w, opposite(w), wantReduced(w), nil} {
			got, ok := impl.CommutatorOf(w, v)
			wantWord(t, got, ok, nil, "CommutatorOf", w, v)
			got, ok = impl.CommutatorOf(v, w)
			wantWord(t, got, ok, nil, "CommutatorOf", v, w)
		}
	}
}

// A commutator falls for each set for which one of both words falls.
func TestCommutatorsFallForAnyOne(t *testing.T) {
	words := [][]int{{1}, {2}, {-3, 4}, {1, 2}, {5, 6}, {1, 2, -1, -2}, twoOfThree(1, 2, 3), {3, 1, -3}}
	for _, u := range words {
		for _, v := range words {
			got, ok := impl.CommutatorOf(u, v)
			if !ok {
				continue
			}
			falls, first, second := wantFalls(got), wantFalls(u), wantFalls(v)
			for set := range falls {
				if (first[set] || second[set]) && !falls[set] {
					t.Errorf("CommutatorOf(%v, %v) hangs for %d", u, v, set)
				}
			}
		}
	}
}
