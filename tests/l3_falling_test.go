package tests

import (
	"slices"
	"testing"

	"loop.example/g01206/impl"
)

func TestTakeOutKnown(t *testing.T) {
	known := []struct {
		w    []int
		set  int
		left []int
	}{
		{nil, 0, nil}, {nil, 63, nil}, {[]int{1, -1}, 0, nil}, {[]int{1, -1}, 2, nil}, {[]int{1}, 0, []int{1}},
		{[]int{1}, 1, nil}, {[]int{-1}, 1, nil}, {[]int{1}, 62, []int{1}}, {[]int{6}, 32, nil}, {[]int{-6}, 31, []int{-6}},
		{[]int{1, 2, -2, 3}, 0, []int{1, 3}}, {[]int{1, 2, -2, 3}, 1, []int{3}}, {[]int{1, 2, -2, 3}, 2, []int{1, 3}},
		{[]int{1, 2, -1, -2}, 0, []int{1, 2, -1, -2}}, {[]int{1, 2, -1, -2}, 1, nil}, {[]int{1, 2, -1, -2}, 2, nil},
		{[]int{1, 2, -1, -2}, 60, []int{1, 2, -1, -2}}, {[]int{1, 2, -1}, 1, []int{2}}, {[]int{1, 2, -1}, 2, nil},
		{[]int{1, 2, 1, -2}, 2, []int{1, 1}}, {[]int{1, 2, 3, -2, -1}, 4, nil}, {[]int{1, 2, 3, -2, 1}, 4, []int{1, 1}},
		{[]int{1, 2, 3, 4, 5, 6}, 21, []int{2, 4, 6}}, {[]int{1, 2, 3, 4, 5, 6}, 63, nil}, {[]int{5, 6, 5}, 48, nil},
		{repeated(-3, 64), 4, nil}, {repeated(-3, 64), 59, repeated(-3, 64)},
		{slices.Repeat([]int{1, 2}, 32), 1, repeated(2, 32)}, {slices.Repeat([]int{1, 2, -1, -2}, 16), 2, nil},
		{joined(repeated(1, 31), []int{2, 3}, repeated(-1, 31)), 6, nil},
		{joined(repeated(1, 31), []int{2, 3}, repeated(-1, 31)), 1, []int{2, 3}},
	}
	for _, k := range known {
		got, ok := impl.TakeOut(k.w, k.set)
		wantWord(t, got, ok, k.left, "TakeOut", k.w, k.set)
		falls, ok := impl.DoesFall(k.w, k.set)
		if !ok || falls != (len(k.left) == 0) {
			t.Errorf("DoesFall(%v, %d) = %v, %v", k.w, k.set, falls, ok)
		}
	}
}

func TestTakeOutOfAllSets(t *testing.T) {
	for _, w := range fallWords() {
		table, fine := impl.FallTable(w)
		letters, all := impl.LettersLeft(w)
		if !fine || !all {
			t.Fatalf("tables of %v: %v, %v", w, fine, all)
		}
		for set := range 64 {
			want := wantLeft(w, set)
			left, ok := impl.TakeOut(w, set)
			wantWord(t, left, ok, want, "TakeOut", w, set)
			falls, ok := impl.DoesFall(w, set)
			if !ok || falls != (len(want) == 0) || table[set] != falls {
				t.Errorf("%v falls for %d: %v, %v, in the table %v", w, set, falls, ok, table[set])
			}
			if letters[set] != len(want) || (letters[set] == 0) != falls {
				t.Errorf("LettersLeft(%v) of %d are %d", w, set, letters[set])
			}
		}
	}
}

func TestWhatIsLeftIsReducedAndHasNoneOfTheNails(t *testing.T) {
	for _, w := range fallWords() {
		for set := range 64 {
			left, _ := impl.TakeOut(w, set)
			if nails, ok := impl.NailsOf(left); !ok || nails&set != 0 {
				t.Errorf("left of %v for %d: %v", w, set, left)
			}
			if is, ok := impl.IsReduced(left); !ok || !is {
				t.Errorf("left of %v for %d: %v, not reduced", w, set, left)
			}
			// All the same whether the nails are taken out at once, or some of them before.
			first, _ := impl.TakeOut(w, set&21)
			again, ok := impl.TakeOut(first, set)
			wantWord(t, again, ok, left, "TakeOut", w, set, "in two steps")
		}
	}
}

func TestWordsFallForMoreNails(t *testing.T) {
	for _, w := range fallWords() {
		table, _ := impl.FallTable(w)
		for part, falls := range table {
			for set := range 64 {
				if falls && isPart(part, set) && !table[set] {
					t.Errorf("%v falls for %d, but not for %d", w, part, set)
				}
			}
		}
		if !table[63] {
			t.Errorf("%v hangs by nothing", w)
		}
	}
}

func TestTablesOfKnownWords(t *testing.T) {
	always, never := [64]bool{}, [64]int{}
	for set := range always {
		always[set] = true
	}
	for _, w := range [][]int{nil, {}, {1, -1}, slices.Repeat([]int{6, -6}, 32), {1, 2, 3, -3, -2, -1}} {
		if table, ok := impl.FallTable(w); !ok || table != always {
			t.Errorf("FallTable(%v) = %v, %v", w, table, ok)
		}
		if letters, ok := impl.LettersLeft(w); !ok || letters != never {
			t.Errorf("LettersLeft(%v) = %v, %v", w, letters, ok)
		}
	}
	letters, ok := impl.LettersLeft([]int{1, 2, 2, 3, 3, 3, 4, 4, 4, 4, 5, 5, 5, 5, 5, 6, 6, 6, 6, 6, 6})
	for set, size := range letters {
		want := 21
		for nail := 1; nail <= 6; nail++ {
			if inSet(nail, set) {
				want -= nail
			}
		}
		if !ok || size != want {
			t.Errorf("letters left for %d: %d, %v, not %d", set, size, ok, want)
		}
	}
}

func TestInversesAndConjugatesFallForTheSameSets(t *testing.T) {
	keys := append(shortWords(3, 1), []int{6, -2}, []int{-5, 1, 4}, []int{1, 2, -1, -2})
	for _, w := range fallWords() {
		table, _ := impl.FallTable(w)
		others := [][]int{opposite(w), wantReduced(w)}
		for _, g := range keys {
			others = append(others, wantReduced(joined(g, w, opposite(g))))
		}
		for _, v := range others {
			got, fine := impl.FallTable(v)
			if fine != (len(v) <= impl.MaxWord) || fine && got != table {
				t.Errorf("FallTable(%v) is not that of %v", v, w)
			}
			if alike, ok := impl.FallAlike(w, v); ok != fine || alike != fine {
				t.Errorf("FallAlike(%v, %v) = %v, %v", w, v, alike, ok)
			}
		}
	}
}

func TestFallAlikeKnown(t *testing.T) {
	known := []struct {
		u, v  []int
		alike bool
	}{
		{nil, nil, true}, {nil, []int{1, -1}, true}, {nil, []int{1}, false}, {[]int{6}, nil, false},
		{[]int{1}, []int{-1}, true}, {[]int{1}, []int{1, 1}, true}, {[]int{1}, []int{2}, false},
		{[]int{1, 2}, []int{2, 1}, true}, {[]int{1, 2}, []int{1, 2, 3}, false}, {[]int{1, 2}, []int{-2, 1, 1}, true},
		{[]int{1, 2, -1, -2}, []int{1, 2}, false}, {[]int{1, 2, -1, -2}, []int{2, 1, -2, -1}, true},
		{[]int{1, 2, 1, -2}, []int{1}, true}, {[]int{3, 1, -3}, []int{-1}, true}, {[]int{3, 1, 3}, []int{1}, false},
		{anyOf(1, 6), anyOf(1, 5), false}, {anyOf(1, 3), commutator([]int{1}, anyOf(2, 3)), true},
		{twoOfThree(1, 2, 3), twoOfThree(3, 1, 2), true}, {twoOfThree(1, 2, 3), twoOfThree(1, 2, 4), false},
		{twoOfThree(1, 2, 3), anyOf(1, 3), false}, {twoOfThree(1, 2, 3), []int{1, 2, 3}, false},
		{repeated(5, 64), []int{5}, true}, {repeated(5, 64), repeated(6, 64), false},
		// These fall alike but for one set: that of all nails but the last one.
		{[]int{1, 2, 3, 4, 5}, []int{1, 2, 3, 4, 5, 6}, false},
	}
	for _, k := range known {
		if alike, ok := impl.FallAlike(k.u, k.v); !ok || alike != k.alike {
			t.Errorf("FallAlike(%v, %v) = %v, %v", k.u, k.v, alike, ok)
		}
		if alike, ok := impl.FallAlike(k.v, k.u); !ok || alike != k.alike {
			t.Errorf("FallAlike(%v, %v) = %v, %v", k.v, k.u, alike, ok)
		}
	}
}

func TestFallAlikeExactly(t *testing.T) {
	words := fallWords()
	tables := make([][64]bool, len(words))
	for i, w := range words {
		tables[i] = wantFalls(w)
	}
	// Not all pairs, which would take long, but each word with words all over the list.
	for i, u := range words {
		for j := i % 31; j < len(words); j += 31 {
			if alike, ok := impl.FallAlike(u, words[j]); !ok || alike != (tables[i] == tables[j]) {
				t.Errorf("FallAlike(%v, %v) = %v, %v", u, words[j], alike, ok)
			}
		}
	}
}
