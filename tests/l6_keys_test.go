package tests

import (
	"slices"
	"testing"

	"loop.example/g01206/impl"
)

func TestIsWordForKnown(t *testing.T) {
	known := []struct {
		w    []int
		sets []int
		is   bool
	}{
		{nil, []int{0}, true}, {nil, nil, false}, {nil, []int{1}, false}, {nil, []int{63}, false},
		{nil, []int{1, 2, 4, 8, 16, 32}, false}, {[]int{3, -3}, []int{0}, true}, {[]int{3, -3}, []int{4}, false},
		// No word hangs for all sets.
		{[]int{1}, nil, false}, {[]int{1, 2, 3, 4, 5, 6}, nil, false}, {anyOf(1, 6), nil, false}, {[]int{6, -6}, nil, false},
		{[]int{1}, []int{1}, true}, {[]int{-1}, []int{1}, true}, {[]int{1, 1}, []int{1}, true}, {[]int{1}, []int{0}, false},
		{[]int{1}, []int{2}, false}, {[]int{6}, []int{32}, true}, {[]int{-6}, []int{16}, false},
		// Not reduced.
		{[]int{1, 2, -2, 1}, []int{1}, true}, {[]int{1, 2, -2, 1}, []int{3}, false}, {[]int{4, 1, -1, 5, 3, -3}, []int{24}, true},
		{[]int{4, 1, -1, 5, 3, -3}, []int{29}, false}, {[]int{2, -2, 1, 2, -1, -2, 5, -5}, []int{1, 2}, true},
		// For more sets than the members, for fewer, and for others.
		{[]int{1, 2, -1, -2}, []int{1}, false}, {[]int{1, 2, -1, -2}, []int{3}, false}, {[]int{1, 2, -1, -2}, []int{1, 2}, true},
		{[]int{1, 2, -1, -2}, []int{1, 2, 4}, false}, {[]int{1, 2, -1, -2}, []int{0}, false}, {[]int{1, 2}, []int{1, 2}, false},
		{[]int{1, 2}, []int{1}, false}, {[]int{1, 2}, []int{3}, true}, {[]int{1, 2}, []int{7}, false},
		{[]int{1, 2, 3, 4, 5, 6}, []int{63}, true}, {[]int{1, 2, 3, 4, 5}, []int{63}, false},
		{[]int{1, 2, 3, 4, 5, 6}, []int{31, 47, 55, 59, 61, 62}, false}, {[]int{1, 2, 3, 4, 5, 6}, []int{31}, false},
		{twoOfThree(1, 2, 3), []int{3, 5, 6}, true}, {twoOfThree(1, 2, 3), []int{3, 5}, false},
		{twoOfThree(1, 2, 3), []int{7}, false}, {anyOf(1, 6), []int{1, 2, 4, 8, 16, 32}, true},
		{anyOf(1, 6), []int{1, 2, 4, 8, 16}, false}, {anyOf(2, 6), []int{1, 2, 4, 8, 16, 32}, false},
		{repeated(5, 64), []int{16}, true}, {repeated(5, 64), []int{17}, false},
	}
	for _, k := range known {
		if is, ok := impl.IsWordFor(k.w, family(k.sets...)); !ok || is != k.is {
			t.Errorf("IsWordFor(%v, %v) = %v, %v", k.w, k.sets, is, ok)
		}
	}
}

func TestIsWordForManyFamilies(t *testing.T) {
	families := manyFamilies()
	for i, w := range fallWords() {
		table := wantFalls(w)
		own := wantEdges(table, true, false)
		if is, ok := impl.IsWordFor(w, family(own...)); !ok || !is {
			t.Errorf("IsWordFor(%v, %v) = %v, %v", w, own, is, ok)
		}
		// Not all pairs, which would take long, but each word with Families all over the list.
		for j := i % 23; j < len(families); j += 23 {
			want := wantMembers(families[j]) == table
			if is, ok := impl.IsWordFor(w, family(families[j]...)); !ok || is != want {
				t.Errorf("IsWordFor(%v, %v) = %v, %v", w, families[j], is, ok)
			}
		}
	}
}

func TestSetWordKnown(t *testing.T) {
	known := map[int][]int{
		0: nil, 1: {1}, 2: {2}, 4: {3}, 8: {4}, 16: {5}, 32: {6}, 3: {1, 2}, 5: {1, 3}, 33: {1, 6}, 48: {5, 6},
		21: {1, 3, 5}, 42: {2, 4, 6}, 62: {2, 3, 4, 5, 6}, 31: {1, 2, 3, 4, 5}, 63: {1, 2, 3, 4, 5, 6},
	}
	for set, want := range known {
		got, ok := impl.SetWord(set)
		wantWord(t, got, ok, want, "SetWord", set)
	}
}

func TestSetWordsFallForTheirSets(t *testing.T) {
	for part := range 64 {
		w, ok := impl.SetWord(part)
		wantWord(t, w, ok, wantSetWord(part), "SetWord", part)
		table, _ := impl.FallTable(w)
		for set, falls := range table {
			if falls != isPart(part, set) {
				t.Errorf("SetWord(%d) falls for %d: %v", part, set, falls)
			}
		}
		if is, ok := impl.IsWordFor(w, family(part)); !ok || !is {
			t.Errorf("SetWord(%d) is for its set: %v, %v", part, is, ok)
		}
	}
}

func TestSetWordRefusesWhatIsNoSet(t *testing.T) {
	for _, set := range append(noSets(), -1, 64) {
		got, ok := impl.SetWord(set)
		wantNone(t, got, ok, "SetWord", set)
	}
}

func TestKeyAtKnown(t *testing.T) {
	known := map[int][]int{
		0: nil, 1: {1}, 2: {-1}, 3: {2}, 4: {-2}, 11: {6}, 12: {-6}, 13: {1, 1}, 14: {1, 2}, 15: {1, -2}, 22: {1, 6},
		23: {1, -6}, 24: {-1, -1}, 25: {-1, 2}, 34: {-1, -6}, 35: {2, 1}, 36: {2, -1}, 37: {2, 2}, 38: {2, 3},
		86: {4, 5}, 110: {5, 6}, 132: {6, -5}, 133: {6, 6}, 134: {-6, 1}, 143: {-6, -5}, 144: {-6, -6},
	}
	for k, want := range known {
		got, ok := impl.KeyAt(k)
		wantWord(t, got, ok, want, "KeyAt", k)
	}
}

func TestKeysInOrder(t *testing.T) {
	if impl.MaxTries != 145 || len(wantKeys()) != impl.MaxTries {
		t.Fatalf("%d keys, MaxTries is %d", len(wantKeys()), impl.MaxTries)
	}
	before := []int{}
	for k, want := range wantKeys() {
		key, ok := impl.KeyAt(k)
		wantWord(t, key, ok, want, "KeyAt", k)
		if is, ok := impl.IsReduced(key); !ok || !is || len(key) > 2 {
			t.Errorf("KeyAt(%d) = %v", k, key)
		}
		if less, ok := impl.LessWord(before, key); !ok || less != (k > 0) {
			t.Errorf("KeyAt(%d) = %v behind %v", k, key, before)
		}
		before = key
	}
}

// Whichever words of two letters are reduced, they are keys.
func TestAllShortReducedWordsAreKeys(t *testing.T) {
	keys := [][]int{}
	for k := range impl.MaxTries {
		key, _ := impl.KeyAt(k)
		keys = append(keys, key)
	}
	for _, w := range shortWords(6, 2) {
		is, _ := impl.IsReduced(w)
		has := slices.ContainsFunc(keys, func(key []int) bool { return slices.Equal(key, w) })
		if has != is {
			t.Errorf("%v is a key: %v", w, has)
		}
	}
}

func TestKeyAtRefusesOtherNumbers(t *testing.T) {
	for _, k := range append(noFrom(0, impl.MaxTries-1), -1, impl.MaxTries, 157) {
		got, ok := impl.KeyAt(k)
		wantNone(t, got, ok, "KeyAt", k)
	}
	for _, k := range []int{0, impl.MaxTries - 1} {
		if _, ok := impl.KeyAt(k); !ok {
			t.Errorf("KeyAt(%d) failed", k)
		}
	}
}
