package tests

import (
	"slices"
	"testing"

	"loop.example/g01206/impl"
)

// checkWicks checks what WicksParts answers.
func checkWicks(t *testing.T, w []int, want wicks, is bool) {
	t.Helper()
	a, b, c, k, ok := impl.WicksParts(w)
	same := slices.Equal(a, want.a) && slices.Equal(b, want.b) && slices.Equal(c, want.c) && k == want.k
	if ok != is || !same {
		t.Errorf("WicksParts(%v) = %v, %v, %v, %d, %v, not %v, %v", w, a, b, c, k, ok, want, is)
	}
}

func TestWicksPartsKnown(t *testing.T) {
	known := []struct {
		w    []int
		want wicks
	}{
		{[]int{1, 2, -1, -2}, wicks{nil, []int{1}, []int{2}, 0}},
		{[]int{2, -1, -2, 1}, wicks{nil, []int{2}, []int{-1}, 0}},
		{[]int{1, 2, 3, -1, -2, -3}, wicks{[]int{1}, []int{2}, []int{3}, 0}},
		{[]int{2, 3, -1, -2, -3, 1}, wicks{[]int{2}, []int{3}, []int{-1}, 0}},
		{commutator([]int{1, 2}, []int{3}), wicks{nil, []int{1, 2}, []int{3}, 0}},
		{commutator([]int{1}, []int{2, 3}), wicks{nil, []int{1}, []int{2, 3}, 0}},
		// Not reduced, or not cyclic, or both.
		{[]int{1, 5, -5, 2, -1, -2}, wicks{nil, []int{1}, []int{2}, 0}},
		{[]int{3, 1, 2, -1, -2, -3}, wicks{nil, []int{1}, []int{2}, 0}},
		{[]int{3, -6, 6, 1, 2, 3, -1, -2, -3, -3}, wicks{[]int{1}, []int{2}, []int{3}, 0}},
		// The first word is empty, although it might have up to 3 letters.
		{commutator([]int{1, 1, 1}, []int{2}), wicks{nil, []int{1, 1, 1}, []int{2}, 0}},
		// The first word is empty, and the second one might have 3 or 5 letters too.
		{[]int{2, 1, 2, 1, 2, 1, -2, -1, -2, -1, -2, -1}, wicks{nil, []int{2}, []int{1, 2, 1, 2, 1}, 0}},
		// Cores that must be turned.
		{[]int{1, 2, 3, -1, -1, -2, -3, 1}, wicks{[]int{2}, []int{3}, []int{-1, -1}, 1}},
		{[]int{2, 3, -2, -1, -3, 1}, wicks{nil, []int{3}, []int{-2, -1}, 1}},
		{[]int{1, 2, 3, -2, -1, -1, -3, 1}, wicks{nil, []int{3}, []int{-2, -1, -1}, 2}},
		{[]int{4, 1, 2, 3, -2, 5, -5, -1, -1, -3, 1, -4}, wicks{nil, []int{3}, []int{-2, -1, -1}, 2}},
		{joined([]int{2}, repeated(3, 16), []int{-2}, repeated(-1, 15), repeated(-3, 16), repeated(1, 15)),
			wicks{nil, repeated(3, 16), joined([]int{-2}, repeated(-1, 15)), 1}},
		// These need not be turned, as three words do where two do not.
		{[]int{1, 2, -1, -1, -2, 1}, wicks{[]int{1}, []int{2}, []int{-1}, 0}},
		{[]int{1, 1, 2, -1, -1, -1, -2, 1}, wicks{[]int{1, 1}, []int{2}, []int{-1}, 0}},
		// Of MaxWord letters.
		{rawCommutator(repeated(1, 16), repeated(2, 16)), wicks{nil, repeated(1, 16), repeated(2, 16), 0}},
		{rawCommutator([]int{1}, repeated(2, 31)), wicks{nil, []int{1}, repeated(2, 31), 0}},
		{joined(repeated(1, 10), repeated(2, 11), repeated(3, 11), repeated(-1, 10), repeated(-2, 11), repeated(-3, 11)),
			wicks{repeated(1, 10), repeated(2, 11), repeated(3, 11), 0}},
	}
	for _, k := range known {
		checkWicks(t, k.w, k.want, true)
	}
}

func TestWicksPartsRefusesOtherWords(t *testing.T) {
	refused := [][]int{
		nil, {}, {1, -1}, {1, 2, -2, -1}, slices.Repeat([]int{1, -1}, 32), {1}, {1, 1}, {1, 2}, {1, 2, 3},
		{1, 2, 1, 2}, {1, 2, -1, 2}, {1, 2, 1, -2}, {1, -2, -1, -2}, {1, 2, -1}, {3, 1, -3}, {1, 2, -1, -2, 1},
		{1, 2, -1, -2, 3}, {2, -1, -2}, {1, 2, 3, -3, -2, -1}, {1, 2, 3, -1, -3, 2}, {1, 2, 3, -1, -2, 3},
		{1, 2, 3, 4, -1, -2, -3, -4}, {1, 2, -1, -2, 3, 4, -3, -4}, {1, 2, -1, -2, 1, 2, -1, -2},
		twoOfThree(1, 2, 3), repeated(1, 64), repeated(1, 63),
		joined(repeated(1, 31), []int{2}, repeated(-1, 31)), joined(repeated(1, 32), repeated(2, 32)),
	}
	for _, w := range refused {
		checkWicks(t, w, wicks{}, false)
	}
}

func TestWicksPartsOfManyWords(t *testing.T) {
	count := 0
	for _, w := range wicksWords() {
		want, is := wantWicks(w)
		checkWicks(t, w, want, is)
		if is {
			count++
		}
	}
	if count < 1000 {
		t.Error("few words of the form:", count)
	}
}

func TestWicksPartsMakeTheTurnedCore(t *testing.T) {
	for _, w := range wicksWords() {
		a, b, c, k, ok := impl.WicksParts(w)
		if !ok {
			continue
		}
		core, _, _ := impl.CoreOf(w)
		turned, ok := impl.TurnWord(core, k)
		wantWord(t, joined(a, b, c, opposite(a), opposite(b), opposite(c)), ok, turned, "parts of", w)
		u, _ := impl.JoinWords(a, b)
		v, _ := impl.JoinWords(c, opposite(a))
		got, ok := impl.CommutatorOf(u, v)
		wantWord(t, got, ok, turned, "CommutatorOf", u, v, "of the parts of", w)
	}
}

// Just the words that are reduced to a commutator of two words, and not to the empty one, are of
// Wicks' form; so are all of their conjugates.
func TestCommutatorsAreOfWicksForm(t *testing.T) {
	words := append(shortWords(2, 3), []int{3}, []int{1, 3}, []int{-2, 3, 1}, []int{1, 2, 3, -6})
	for _, u := range words {
		for _, v := range words {
			product, _ := impl.CommutatorOf(u, v)
			for _, g := range [][]int{nil, {1}, {4}, {-2, 1}} {
				conjugate, ok := impl.ConjugateWord(g, product)
				if _, _, _, _, is := impl.WicksParts(conjugate); !ok || is != (len(product) > 0) {
					t.Errorf("WicksParts(%v), a conjugate of the commutator of %v and %v: %v", conjugate, u, v, is)
				}
			}
		}
	}
}
