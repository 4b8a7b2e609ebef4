package tests

import (
	"math"
	"slices"
	"testing"

	"loop.example/g01206/impl"
)

func checkPlay(t *testing.T, w []int, n int, set int, list []int, wantOut int, wantTaken int) {
	t.Helper()
	out, taken, ok := impl.PlayNails(w, n, set, list)
	if !ok || out != wantOut || taken != wantTaken {
		t.Errorf("PlayNails(%v, %d, %d, %v) = %d, %d, %v, not %d, %d", w, n, set, list, out, taken, ok, wantOut, wantTaken)
	}
}

func TestPlayNailsKnown(t *testing.T) {
	for _, c := range []struct {
		text  string
		n     int
		set   int
		list  []int
		out   int
		taken int
	}{
		{"abAB", 3, 0, nil, 0, 0}, {"abAB", 3, 4, nil, 4, 0}, {"abAB", 3, 4, []int{}, 4, 0}, {"abcdef", 6, 31, nil, 31, 0},
		// Up to the nail with which the word falls, and not behind it.
		{"abAB", 3, 0, []int{3, 1, 2}, 5, 2}, {"abAB", 3, 0, []int{1, 2, 3}, 1, 1}, {"abAB", 3, 0, []int{2, 3}, 2, 1},
		{"abAB", 3, 4, []int{2, 1}, 6, 1}, {"abc", 3, 0, []int{3, 2, 1}, 7, 3}, {"abc", 3, 0, []int{3, 2, 1, 1, 2, 3}, 7, 3},
		{"abc", 4, 0, []int{2, 4, 1, 3}, 15, 4}, {"abc", 4, 0, []int{2, 1, 3, 4}, 7, 3}, {"a", 6, 0, []int{2, 3, 4, 5, 6, 1}, 63, 6},
		{"a", 6, 0, []int{2, 3, 4, 5, 6}, 62, 5}, {"abcdef", 6, 0, []int{6, 5, 4, 3, 2, 1}, 63, 6}, {"abc", 3, 5, []int{2}, 7, 1},
		// Up to what is none of the nails.
		{"abAB", 3, 0, []int{4}, 0, 0}, {"abAB", 3, 0, []int{0}, 0, 0}, {"abAB", 3, 0, []int{-1}, 0, 0}, {"abAB", 3, 0, []int{3, 4, 1}, 4, 1},
		{"abAB", 2, 0, []int{3, 1}, 0, 0}, {"abAB", 3, 0, []int{3, 0, 1}, 4, 1}, {"abAB", 3, 0, []int{3, 7, 1}, 4, 1}, {"abAB", 3, 0, []int{-3, 1}, 0, 0},
		{"abc", 6, 0, []int{6, 1, 7, 2}, 33, 2}, {"abc", 5, 0, []int{5, 6, 1}, 16, 1}, {"abc", 6, 0, []int{1, 6, 5, 65, 4}, 49, 3},
		{"abAB", 3, 0, []int{3, 64, 1}, 4, 1}, {"abAB", 3, 0, []int{3, 67, 1}, 4, 1}, {"abAB", 3, 0, []int{3, 1<<32 + 1, 1}, 4, 1},
		{"abAB", 3, 0, []int{math.MaxInt}, 0, 0}, {"abAB", 3, 0, []int{3, math.MinInt, 1}, 4, 1}, {"abAB", 3, 0, []int{3, math.MinInt + 1}, 4, 1},
		// Up to one that is out already.
		{"abAB", 3, 0, []int{3, 3, 1}, 4, 1}, {"abAB", 3, 4, []int{3, 1}, 4, 0}, {"abc", 4, 2, []int{1, 2, 3}, 3, 1}, {"abc", 4, 0, []int{4, 1, 4, 2}, 9, 2},
	} {
		checkPlay(t, wordOf(c.text), c.n, c.set, c.list, c.out, c.taken)
	}
}

func TestPlayNailsTakesLongLists(t *testing.T) {
	w := wordOf("abc")
	checkPlay(t, w, 6, 0, repeated(6, 5000), 32, 1)
	checkPlay(t, w, 6, 0, repeated(0, 5000), 0, 0)
	checkPlay(t, w, 6, 0, joined([]int{4, 1, 2, 3}, repeated(5, 5000)), 15, 4)
	checkPlay(t, w, 6, 0, joined([]int{4, 1, 2}, repeated(5, 5000)), 27, 4)
	checkPlay(t, w, 6, 0, slices.Repeat([]int{6, 5, 4, 3, 2, 1}, 1000), 63, 6)
	checkPlay(t, w, 6, 32, slices.Repeat([]int{5, 4, 3, 2, 1}, 1000), 63, 5)
}

// wantPlay takes out nails while they are in and the word hangs.
func wantPlay(falls [64]bool, n int, set int, list []int) (int, int) {
	for taken, nail := range list {
		if nail < 1 || nail > n || inSet(nail, set) || falls[set] {
			return set, taken
		}
		set += oneNail(nail)
	}
	return set, len(list)
}

func TestPlayNailsOfManyWords(t *testing.T) {
	lists := append(nailLists(), []int{1, 7}, []int{6, 0, 1}, []int{4, -1}, []int{5, 1 << 40, 1}, []int{2, 64})
	lists = append(lists, ordersOfNails(4, 0)...)
	for i, w := range ruleWords(t) {
		n := 4 + i%3
		falls := wantFalls(w)
		if !falls[subsetsOf(n)-1] {
			continue
		}
		for k, list := range lists {
			set := (i*7 + k*5) % subsetsOf(n)
			if falls[set] {
				set = 0
			}
			out, taken := wantPlay(falls, n, set, list)
			checkPlay(t, w, n, set, list, out, taken)
		}
	}
}

func TestLosingSetsKnown(t *testing.T) {
	for _, c := range []struct {
		text string
		n    int
		drop []int
		keep []int
	}{
		{"a", 1, nil, []int{0}}, {"B", 2, nil, []int{1}}, {"a", 2, nil, []int{2}}, {"a", 3, nil, []int{0, 6}},
		{"abAB", 2, nil, []int{0}}, {"abAB", 3, nil, []int{4}}, {"abAB", 4, nil, []int{0, 12}},
		{"ab", 2, []int{0}, []int{1, 2}}, {"abc", 3, []int{1, 2, 4}, []int{0, 3, 5, 6}},
		{"abABacACbcBC", 3, []int{0}, []int{1, 2, 4}}, {"abABacACbcBC", 4, []int{8}, []int{0, 9, 10, 12}},
		{"abcBAC", 3, nil, []int{1, 2}}, {"bBabAB", 2, nil, []int{0}},
	} {
		got, ok := impl.LosingSets(wordOf(c.text), c.n, true)
		wantWord(t, got, ok, c.drop, "LosingSets", c.text, c.n, true)
		got, ok = impl.LosingSets(wordOf(c.text), c.n, false)
		wantWord(t, got, ok, c.keep, "LosingSets", c.text, c.n, false)
	}
}

func TestLosingSetsAreTheLostPositions(t *testing.T) {
	for i, w := range append(ruleWords(t), shortWords(3, 3)...) {
		n := 1 + i%6
		dropLost, keepLost := []int{}, []int{}
		for set := range subsetsOf(n) {
			if won, ok := impl.CanDrop(w, n, set); ok && !won {
				dropLost = append(dropLost, set)
			}
			if won, ok := impl.CanKeep(w, n, set); ok && !won {
				keepLost = append(keepLost, set)
			}
		}
		// A word that does not fall at last, or falls at once, has no position that is not ended.
		_, valid := impl.CanDrop(w, n, 0)
		for drop, want := range map[bool][]int{true: dropLost, false: keepLost} {
			got, ok := impl.LosingSets(w, n, drop)
			if ok != valid || !slices.Equal(got, want) {
				t.Errorf("LosingSets(%v, %d, %v) = %v, %v, not %v", w, n, drop, got, ok, want)
			}
		}
	}
}
