package tests

import (
	"slices"
	"testing"

	"loop.example/g01206/impl"
)

func TestAndOrKnown(t *testing.T) {
	known := []struct{ f, g, and, or []int }{
		{nil, nil, nil, nil}, {nil, []int{0}, nil, []int{0}}, {[]int{0}, []int{0}, []int{0}, []int{0}},
		{nil, []int{3, 5, 6}, nil, []int{3, 5, 6}}, {[]int{0}, []int{3, 5, 6}, []int{3, 5, 6}, []int{0}},
		{[]int{3, 5, 6}, []int{3, 5, 6}, []int{3, 5, 6}, []int{3, 5, 6}}, {[]int{1}, []int{2}, []int{3}, []int{1, 2}},
		{[]int{1}, []int{32}, []int{33}, []int{1, 32}}, {[]int{1}, []int{3}, []int{3}, []int{1}},
		{[]int{1, 2}, []int{4, 8}, []int{5, 6, 9, 10}, []int{1, 2, 4, 8}}, {[]int{1, 2}, []int{2, 4}, []int{2, 5}, []int{1, 2, 4}},
		{[]int{7}, []int{56}, []int{63}, []int{7, 56}}, {[]int{3, 12}, []int{48}, []int{51, 60}, []int{3, 12, 48}},
		{[]int{3, 5, 6}, []int{1}, []int{3, 5}, []int{1, 6}}, {[]int{3, 4}, []int{1, 6}, []int{3, 5, 6}, []int{1, 4}},
		{[]int{1, 62}, []int{31, 32}, []int{31, 33, 62}, []int{1, 32}},
	}
	for _, k := range known {
		for _, turned := range []bool{false, true} {
			f, g := family(k.f...), family(k.g...)
			if turned {
				f, g = g, f
			}
			and, ok := impl.AndFamily(f, g)
			wantWord(t, and.Sets, ok, k.and, "AndFamily", f, g)
			or, ok := impl.OrFamily(f, g)
			wantWord(t, or.Sets, ok, k.or, "OrFamily", f, g)
		}
	}
}

// checkPair checks what two Families have together against the members of both, for all sets.
func checkPair(t *testing.T, f []int, g []int) {
	t.Helper()
	both, either := [64]bool{}, [64]bool{}
	ofF, ofG := wantMembers(f), wantMembers(g)
	for set := range 64 {
		both[set] = ofF[set] && ofG[set]
		either[set] = ofF[set] || ofG[set]
	}
	and, ok := impl.AndFamily(family(f...), family(g...))
	wantFamily(t, and, ok, both, "AndFamily", f, g)
	or, ok := impl.OrFamily(family(f...), family(g...))
	wantFamily(t, or, ok, either, "OrFamily", f, g)
}

func TestAndOrOfManyFamilies(t *testing.T) {
	for _, f := range allFamilies(3) {
		for _, g := range allFamilies(3) {
			checkPair(t, f, g)
		}
	}
	many := manyFamilies()
	for i, f := range many {
		checkPair(t, f, f)
		// Not all pairs, which would take long, but each one with others all over the list.
		for j := i % 13; j < len(many); j += 13 {
			checkPair(t, f, many[j])
		}
	}
}

func TestDualKnown(t *testing.T) {
	known := []struct {
		sets []int
		n    int
		dual []int
	}{
		{nil, 0, []int{0}}, {[]int{0}, 0, nil}, {nil, 3, []int{0}}, {[]int{0}, 3, nil}, {nil, 6, []int{0}}, {[]int{0}, 6, nil},
		{[]int{1}, 1, []int{1}}, {[]int{1}, 6, []int{1}}, {[]int{32}, 6, []int{32}}, {[]int{3}, 2, []int{1, 2}},
		{[]int{1, 2}, 2, []int{3}}, {[]int{3}, 6, []int{1, 2}}, {[]int{3, 5, 6}, 3, []int{3, 5, 6}},
		{[]int{3, 5, 6}, 5, []int{3, 5, 6}}, {[]int{7}, 3, []int{1, 2, 4}}, {[]int{63}, 6, []int{1, 2, 4, 8, 16, 32}},
		{[]int{1, 2, 4, 8, 16, 32}, 6, []int{63}}, {[]int{1, 6}, 3, []int{3, 5}}, {[]int{3, 5}, 3, []int{1, 6}},
		{[]int{3, 12}, 4, []int{5, 6, 9, 10}}, {[]int{1, 62}, 6, []int{3, 5, 9, 17, 33}},
		{[]int{7, 24}, 5, []int{9, 10, 12, 17, 18, 20}},
	}
	for _, k := range known {
		got, ok := impl.DualFamily(family(k.sets...), k.n)
		wantWord(t, got.Sets, ok, k.dual, "DualFamily", k.sets, k.n)
		back, ok := impl.DualFamily(family(k.dual...), k.n)
		wantWord(t, back.Sets, ok, k.sets, "DualFamily", k.dual, k.n)
		self, ok := impl.IsSelfDual(family(k.sets...), k.n)
		if !ok || self != slices.Equal(k.sets, k.dual) {
			t.Errorf("IsSelfDual(%v, %d) = %v, %v", k.sets, k.n, self, ok)
		}
	}
	size := map[int]int{1: 6, 2: 5, 3: 4, 4: 3, 5: 2, 6: 1}
	for from, to := range size {
		got, ok := impl.DualFamily(family(setsOfSize(from)...), 6)
		wantWord(t, got.Sets, ok, setsOfSize(to), "DualFamily of all sets of size", from)
	}
}

// wantDual are the members of the dual, by the document's words.
func wantDual(sets []int, n int) [64]bool {
	dual, members := [64]bool{}, wantMembers(sets)
	nails := subsetsOf(n) - 1
	for set := range dual {
		part := without(set, 63-nails)
		dual[set] = !members[without(nails, part)]
	}
	return dual
}

func TestDualsOfManyFamilies(t *testing.T) {
	for _, sets := range append(manyFamilies(), allFamilies(4)...) {
		for n := range 7 {
			f := family(sets...)
			dual, ok := impl.DualFamily(f, n)
			self, fine := impl.IsSelfDual(f, n)
			if nailsIn(sets) >= subsetsOf(n) {
				wantNoFamily(t, dual, ok, "DualFamily", sets, n)
				if fine || self {
					t.Errorf("IsSelfDual(%v, %d) = %v, %v", sets, n, self, fine)
				}
				continue
			}
			want := wantDual(sets, n)
			wantFamily(t, dual, ok, want, "DualFamily", sets, n)
			if !fine || self != (want == wantMembers(sets)) {
				t.Errorf("IsSelfDual(%v, %d) = %v, %v", sets, n, self, fine)
			}
			again, ok := impl.DualFamily(dual, n)
			wantWord(t, again.Sets, ok, sets, "DualFamily of DualFamily of", sets, n)
		}
	}
}

func TestDualsNeedAllNailsOfTheFamily(t *testing.T) {
	for nail := 1; nail <= 6; nail++ {
		alone := subsetsOf(nail - 1)
		// The last nail of these is alone, beside others, or together with others.
		for _, sets := range [][]int{{alone}, {1 | alone}, {2*alone - 1}, slices.Compact([]int{1, alone})} {
			for n := range 7 {
				if _, ok := impl.DualFamily(family(sets...), n); ok != (n >= nailsNeeded(sets)) {
					t.Errorf("DualFamily(%v, %d): %v", sets, n, ok)
				}
				if _, ok := impl.IsSelfDual(family(sets...), n); ok != (n >= nailsNeeded(sets)) {
					t.Errorf("IsSelfDual(%v, %d): %v", sets, n, ok)
				}
			}
		}
	}
}

// nailsNeeded is the greatest nail of a list of sets, 0 if there is none.
func nailsNeeded(sets []int) int {
	greatest := 0
	for nail := 1; nail <= 6; nail++ {
		if inSet(nail, nailsIn(sets)) {
			greatest = nail
		}
	}
	return greatest
}

func TestSelfDuals(t *testing.T) {
	// More than half of an odd number of nails, with the nail 1 to decide for an even one.
	for n, sets := range map[int][]int{
		1: {1}, 2: {1}, 3: {3, 5, 6}, 4: {3, 5, 9, 14}, 5: {7, 11, 13, 14, 19, 21, 22, 25, 26, 28},
	} {
		for more := n; more <= 6; more++ {
			if self, ok := impl.IsSelfDual(family(sets...), more); !ok || !self {
				t.Errorf("IsSelfDual(%v, %d) = %v, %v", sets, more, self, ok)
			}
		}
	}
	for _, sets := range [][]int{nil, {0}, {3}, {1, 2}, {1, 6}, {3, 5}, {7}, {1, 2, 4}, {3, 5, 6, 8}} {
		if self, ok := impl.IsSelfDual(family(sets...), 6); !ok || self {
			t.Errorf("IsSelfDual(%v, 6) = %v, %v", sets, self, ok)
		}
	}
	// So many monotone functions of 0 to 4 things are their own duals.
	for n, want := range []int{0, 1, 2, 4, 12} {
		count := 0
		for _, sets := range allFamilies(n) {
			if self, _ := impl.IsSelfDual(family(sets...), n); self {
				count++
			}
		}
		if count != want {
			t.Errorf("%d Families of %d nails are their own duals", count, n)
		}
	}
}

// checkDualPair checks that duals turn and into or, and the other way around.
func checkDualPair(t *testing.T, f impl.Family, g impl.Family, n int) {
	t.Helper()
	dualF, _ := impl.DualFamily(f, n)
	dualG, _ := impl.DualFamily(g, n)
	and, _ := impl.AndFamily(f, g)
	or, _ := impl.OrFamily(f, g)
	dualAnd, _ := impl.DualFamily(and, n)
	dualOr, _ := impl.DualFamily(or, n)
	orOfDuals, ok := impl.OrFamily(dualF, dualG)
	wantWord(t, dualAnd.Sets, ok, orOfDuals.Sets, "DualFamily of AndFamily", f, g, n)
	andOfDuals, ok := impl.AndFamily(dualF, dualG)
	wantWord(t, dualOr.Sets, ok, andOfDuals.Sets, "DualFamily of OrFamily", f, g, n)
}

func TestDualsTurnAndIntoOr(t *testing.T) {
	for n := 3; n <= 6; n += 3 {
		for _, f := range allFamilies(3) {
			for _, g := range allFamilies(3) {
				checkDualPair(t, family(f...), family(g...), n)
			}
		}
	}
	many := manyFamilies()
	for i, f := range many {
		for j := i % 19; j < len(many); j += 19 {
			checkDualPair(t, family(f...), family(many[j]...), 6)
		}
	}
}
