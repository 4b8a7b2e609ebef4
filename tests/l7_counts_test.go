package tests

import (
	"math/big"
	"testing"

	"loop.example/g01206/impl"
)

// checkNumber checks the result of a function that counts.
func checkNumber(t *testing.T, got int, ok bool, want int, call ...any) {
	t.Helper()
	if !ok || got != want {
		t.Errorf("%v = %d, %v, not %d", call, got, ok, want)
	}
}

// checkNoNumber checks that a function that counts has failed.
func checkNoNumber(t *testing.T, got int, ok bool, call ...any) {
	t.Helper()
	if ok || got != 0 {
		t.Errorf("%v = %d, %v, although it fails", call, got, ok)
	}
}

func TestCountsOfWordsKnown(t *testing.T) {
	known := []struct{ n, length, reduced, cyclic int }{
		{1, 0, 1, 1}, {2, 0, 1, 1}, {6, 0, 1, 1}, {1, 1, 2, 2}, {2, 1, 4, 4}, {3, 1, 6, 6}, {6, 1, 12, 12},
		{2, 2, 12, 12}, {3, 2, 30, 30}, {6, 2, 132, 132}, {2, 3, 36, 28}, {3, 3, 150, 126}, {2, 4, 108, 84}, {2, 8, 8748, 6564},
		{3, 5, 3750, 3126}, {4, 3, 392, 344}, {5, 3, 810, 730}, {6, 3, 1452, 1332},
		// The last lengths of which there are no more than MaxRank words.
		{1, 63, 2, 2}, {1, 64, 2, 2}, {2, 24, 376572715308, 282429536484}, {3, 17, 915527343750, 762939453126},
		{4, 14, 775112083256, 678223072856}, {5, 12, 313810596090, 282429536490}, {6, 11, 311249095212, 285311670612},
	}
	for _, k := range known {
		got, ok := impl.CountReduced(k.n, k.length)
		checkNumber(t, got, ok, k.reduced, "CountReduced", k.n, k.length)
		got, ok = impl.CountCyclicWords(k.n, k.length)
		checkNumber(t, got, ok, k.cyclic, "CountCyclicWords", k.n, k.length)
	}
}

// Of 2 nails and 25 letters there are more than MaxRank words, but fewer that are cyclic.
func TestCountsFailFromALengthOn(t *testing.T) {
	if wantCyclic(2, 25).Cmp(big.NewInt(847288609444)) != 0 || isRanked(wantCount(2, 25)) {
		t.Fatal("2 nails and 25 letters", wantCyclic(2, 25), wantCount(2, 25))
	}
	for n, length := range map[int]int{2: 25, 3: 18, 4: 15, 5: 13, 6: 12} {
		for ; length <= impl.MaxWord; length++ {
			got, ok := impl.CountReduced(n, length)
			checkNoNumber(t, got, ok, "CountReduced", n, length)
			got, ok = impl.CountCyclicWords(n, length)
			checkNoNumber(t, got, ok, "CountCyclicWords", n, length)
		}
	}
}

func TestCountsOfAllLengths(t *testing.T) {
	for n := 1; n <= 6; n++ {
		for length := range impl.MaxWord + 1 {
			reduced, ok := impl.CountReduced(n, length)
			cyclic, fine := impl.CountCyclicWords(n, length)
			if !isRanked(wantCount(n, length)) {
				checkNoNumber(t, reduced, ok, "CountReduced", n, length)
				checkNoNumber(t, cyclic, fine, "CountCyclicWords", n, length)
				continue
			}
			checkNumber(t, reduced, ok, int(wantCount(n, length).Int64()), "CountReduced", n, length)
			checkNumber(t, cyclic, fine, int(wantCyclic(n, length).Int64()), "CountCyclicWords", n, length)
		}
	}
}

// What is counted is there: all lists of letters are looked at.
func TestCountsAreThoseOfTheWords(t *testing.T) {
	for n, size := range map[int]int{1: 10, 2: 7, 3: 5, 4: 4, 5: 3, 6: 3} {
		reduced, cyclic := make([]int, size+1), make([]int, size+1)
		for _, w := range reducedWords(n, size) {
			reduced[len(w)]++
			if isCyclic(w) {
				cyclic[len(w)]++
			}
		}
		for length := range size + 1 {
			got, ok := impl.CountReduced(n, length)
			checkNumber(t, got, ok, reduced[length], "CountReduced", n, length)
			got, ok = impl.CountCyclicWords(n, length)
			checkNumber(t, got, ok, cyclic[length], "CountCyclicWords", n, length)
		}
	}
}

func TestCountsRefuseOtherNumbers(t *testing.T) {
	for _, n := range append(noFrom(1, 6), 0, 7, -1) {
		for _, length := range append(noFrom(0, impl.MaxWord), 0, 1, 2, impl.MaxWord) {
			got, ok := impl.CountReduced(n, length)
			checkNoNumber(t, got, ok, "CountReduced", n, length)
			got, ok = impl.CountCyclicWords(n, length)
			checkNoNumber(t, got, ok, "CountCyclicWords", n, length)
		}
	}
	for n := 1; n <= 6; n++ {
		for _, length := range append(noFrom(0, impl.MaxWord), -1, impl.MaxWord+1) {
			got, ok := impl.CountReduced(n, length)
			checkNoNumber(t, got, ok, "CountReduced", n, length)
			got, ok = impl.CountCyclicWords(n, length)
			checkNoNumber(t, got, ok, "CountCyclicWords", n, length)
		}
	}
}
