package tests

import (
	"testing"

	"loop.example/g01206/impl"
)

func TestCountMembersKnown(t *testing.T) {
	known := []struct {
		sets []int
		// The answers for the nails 1..n, n from 0 to 6.
		counts [7]int
	}{
		{nil, [7]int{}}, {[]int{0}, [7]int{1, 2, 4, 8, 16, 32, 64}}, {[]int{1}, [7]int{0, 1, 2, 4, 8, 16, 32}},
		{[]int{32}, [7]int{0, 0, 0, 0, 0, 0, 32}}, {[]int{16}, [7]int{0, 0, 0, 0, 0, 16, 32}},
		{[]int{63}, [7]int{0, 0, 0, 0, 0, 0, 1}}, {[]int{1, 2}, [7]int{0, 1, 3, 6, 12, 24, 48}},
		{[]int{3, 5, 6}, [7]int{0, 0, 1, 4, 8, 16, 32}}, {[]int{7, 24}, [7]int{0, 0, 0, 1, 2, 11, 22}},
		{[]int{1, 62}, [7]int{0, 1, 2, 4, 8, 16, 33}}, {[]int{3, 12, 48}, [7]int{0, 0, 1, 2, 7, 14, 37}},
		{[]int{1, 2, 4, 8, 16, 32}, [7]int{0, 1, 3, 7, 15, 31, 63}}, {setsOfSize(3), [7]int{0, 0, 0, 1, 5, 16, 42}},
	}
	for _, k := range known {
		for n, want := range k.counts {
			if got, ok := impl.CountMembers(family(k.sets...), n); !ok || got != want {
				t.Errorf("CountMembers(%v, %d) = %d, %v", k.sets, n, got, ok)
			}
		}
	}
}

func TestCountMembersOfManyFamilies(t *testing.T) {
	for _, sets := range append(manyFamilies(), allFamilies(4)...) {
		members := wantMembers(sets)
		for n := range 7 {
			want := 0
			for set := range subsetsOf(n) {
				if members[set] {
					want++
				}
			}
			if got, ok := impl.CountMembers(family(sets...), n); !ok || got != want {
				t.Errorf("CountMembers(%v, %d) = %d, %v, not %d", sets, n, got, ok, want)
			}
		}
	}
}

func TestPivotCountsKnown(t *testing.T) {
	known := []struct {
		sets   []int
		counts [6]int
	}{
		{nil, [6]int{}}, {[]int{0}, [6]int{}}, {[]int{1}, [6]int{32}}, {[]int{32}, [6]int{0, 0, 0, 0, 0, 32}},
		{[]int{63}, [6]int{1, 1, 1, 1, 1, 1}}, {[]int{1, 2, 4, 8, 16, 32}, [6]int{1, 1, 1, 1, 1, 1}},
		{[]int{1, 2}, [6]int{16, 16}}, {[]int{3}, [6]int{16, 16}}, {[]int{3, 5, 6}, [6]int{16, 16, 16}},
		{[]int{1, 6}, [6]int{24, 8, 8}}, {[]int{3, 5}, [6]int{24, 8, 8}}, {[]int{1, 62}, [6]int{31, 1, 1, 1, 1, 1}},
		{[]int{7, 24}, [6]int{6, 6, 6, 14, 14}}, {[]int{3, 12, 48}, [6]int{9, 9, 9, 9, 9, 9}},
		{setsOfSize(3), [6]int{10, 10, 10, 10, 10, 10}}, {setsOfSize(5), [6]int{5, 5, 5, 5, 5, 5}},
		{[]int{24, 40, 48}, [6]int{0, 0, 0, 16, 16, 16}},
	}
	for _, k := range known {
		if got, ok := impl.PivotCounts(family(k.sets...)); !ok || got != k.counts {
			t.Errorf("PivotCounts(%v) = %v, %v, not %v", k.sets, got, ok, k.counts)
		}
	}
}

// wantPivots counts by the document's words.
func wantPivots(members [64]bool) [6]int {
	counts := [6]int{}
	for i := range counts {
		alone := subsetsOf(i)
		for set := range members {
			if !inSet(i+1, set) && !members[set] && members[set+alone] {
				counts[i]++
			}
		}
	}
	return counts
}

func TestPivotCountsOfManyFamilies(t *testing.T) {
	for _, sets := range append(manyFamilies(), allFamilies(4)...) {
		want := wantPivots(wantMembers(sets))
		got, ok := impl.PivotCounts(family(sets...))
		if !ok || got != want {
			t.Errorf("PivotCounts(%v) = %v, %v, not %v", sets, got, ok, want)
		}
		for i, count := range got {
			// The Sets are least, so each of their nails decides for some set.
			if (count > 0) != inSet(i+1, nailsIn(sets)) {
				t.Errorf("PivotCounts(%v) = %v, and the nail %d", sets, got, i+1)
			}
		}
	}
}

func TestPivotNailsAreThoseThatMatter(t *testing.T) {
	for _, w := range fallWords() {
		f, _ := impl.FamilyOfWord(w)
		counts, ok := impl.PivotCounts(f)
		nails := 0
		for i, count := range counts {
			if count > 0 {
				nails += subsetsOf(i)
			}
		}
		if matter, fine := impl.MatteringNails(w); !ok || !fine || nails != matter || counts != wantPivots(wantFalls(w)) {
			t.Errorf("PivotCounts of %v are %v, and %d matter", w, counts, matter)
		}
	}
}

func TestCountFamilies(t *testing.T) {
	for n, want := range []int{2, 3, 6, 20, 168} {
		got, ok := impl.CountFamilies(n)
		if !ok || got != want || got != len(allFamilies(n)) {
			t.Errorf("CountFamilies(%d) = %d, %v, not %d", n, got, ok, want)
		}
	}
	for _, bad := range append(noFrom(0, 4), 5, 6, 7) {
		if got, ok := impl.CountFamilies(bad); ok || got != 0 {
			t.Errorf("CountFamilies(%d) = %d, %v", bad, got, ok)
		}
	}
}
