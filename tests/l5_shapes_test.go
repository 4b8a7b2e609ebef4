package tests

import (
	"math"
	"testing"

	"loop.example/g01206/impl"
)

func TestThresholdKnown(t *testing.T) {
	known := []struct {
		n, k int
		sets []int
	}{
		{0, 0, []int{0}}, {0, 1, nil}, {1, 0, []int{0}}, {1, 1, []int{1}}, {1, 2, nil}, {2, 1, []int{1, 2}}, {2, 2, []int{3}},
		{2, 3, nil}, {3, 2, []int{3, 5, 6}}, {3, 3, []int{7}}, {3, 4, nil}, {4, 3, []int{7, 11, 13, 14}}, {4, 4, []int{15}},
		{5, 1, []int{1, 2, 4, 8, 16}}, {5, 5, []int{31}}, {5, 6, nil}, {6, 0, []int{0}}, {6, 1, []int{1, 2, 4, 8, 16, 32}},
		{6, 5, []int{31, 47, 55, 59, 61, 62}}, {6, 6, []int{63}}, {6, 7, nil},
	}
	for _, k := range known {
		got, ok := impl.ThresholdFamily(k.n, k.k)
		wantWord(t, got.Sets, ok, k.sets, "ThresholdFamily", k.n, k.k)
	}
}

func TestThresholdsOfAllNumbers(t *testing.T) {
	for n := -2; n <= 8; n++ {
		for k := -2; k <= 10; k++ {
			got, ok := impl.ThresholdFamily(n, k)
			if n < 0 || n > 6 || k < 0 || k > n+1 {
				wantNoFamily(t, got, ok, "ThresholdFamily", n, k)
				continue
			}
			members := [64]bool{}
			for set := range members {
				members[set] = wantSize(set%subsetsOf(n)) >= k
			}
			wantFamily(t, got, ok, members, "ThresholdFamily", n, k)
		}
	}
}

func TestThresholdRefusesNumbers(t *testing.T) {
	for _, bad := range noFrom(0, 6) {
		for _, k := range append(noFrom(0, 7), 0, 1, 7, bad, -bad) {
			got, ok := impl.ThresholdFamily(bad, k)
			wantNoFamily(t, got, ok, "ThresholdFamily", bad, k)
		}
	}
	for n := range 7 {
		for _, bad := range noFrom(0, n+1) {
			got, ok := impl.ThresholdFamily(n, bad)
			wantNoFamily(t, got, ok, "ThresholdFamily", n, bad)
		}
	}
}

func TestWeightsKnown(t *testing.T) {
	known := []struct {
		weights [6]int
		limit   int
		sets    []int
	}{
		{[6]int{}, 0, []int{0}}, {[6]int{}, 1, nil}, {[6]int{}, 999, nil}, {[6]int{2, 1, 1}, 2, []int{1, 6}},
		{[6]int{2, 1, 1}, 0, []int{0}}, {[6]int{2, 1, 1}, 4, []int{7}}, {[6]int{2, 1, 1}, 5, nil},
		{[6]int{99, 99, 99, 99, 99, 99}, 594, []int{63}}, {[6]int{99, 99, 99, 99, 99, 99}, 595, nil},
		{[6]int{99, 99, 99, 99, 99, 99}, 593, []int{63}}, {[6]int{99, 99, 99, 99, 99, 99}, 99, []int{1, 2, 4, 8, 16, 32}},
		{[6]int{99, 99, 99, 99, 99, 99}, 100, setsOfSize(2)}, {[6]int{99, 99, 99, 99, 99, 99}, 999, nil},
		{[6]int{1, 2, 4, 8, 16, 32}, 63, []int{63}}, {[6]int{1, 2, 4, 8, 16, 32}, 62, []int{62}},
		{[6]int{1, 2, 4, 8, 16, 32}, 64, nil}, {[6]int{1, 2, 4, 8, 16, 32}, 61, []int{61, 62}},
		{[6]int{0, 0, 0, 0, 0, 7}, 7, []int{32}}, {[6]int{7, 0, 0, 0, 0, 0}, 7, []int{1}}, {[6]int{7}, 8, nil},
		{[6]int{3, 3, 2, 2, 2}, 7, []int{7, 11, 13, 14, 19, 21, 22, 25, 26}}, {[6]int{0, 5, 0, 5}, 10, []int{10}},
		{[6]int{0, 5, 0, 5}, 9, []int{10}}, {[6]int{0, 5, 0, 5}, 11, nil}, {[6]int{0, 5, 0, 5}, 5, []int{2, 8}},
	}
	for _, k := range known {
		got, ok := impl.WeightFamily(k.weights, k.limit)
		wantWord(t, got.Sets, ok, k.sets, "WeightFamily", k.weights, k.limit)
	}
}

// variedWeights are weights of all kinds.
func variedWeights() [][6]int {
	list := [][6]int{
		{}, {1, 1, 1, 1, 1, 1}, {99, 99, 99, 99, 99, 99}, {1, 2, 4, 8, 16, 32}, {32, 16, 8, 4, 2, 1}, {2, 1, 1}, {0, 0, 0, 1, 1, 2},
		{99, 0, 98, 0, 97, 1}, {10, 20, 30, 40, 50, 60}, {5, 5, 5, 3, 3, 1}, {1, 1, 2, 3, 5, 8}, {0, 99, 50, 49, 1, 0},
	}
	state := 77
	for range 20 {
		weights := [6]int{}
		for i := range weights {
			state = (state*1103515245 + 12345) % (1 << 31)
			weights[i] = state >> 16 % 100
		}
		list = append(list, weights)
	}
	return list
}

func TestWeightsOfManyNumbers(t *testing.T) {
	for _, weights := range variedWeights() {
		sums, limits := [64]int{}, []int{0, 1, 2, 3, 99, 100, 998, 999}
		for set := range sums {
			for i, weight := range weights {
				if inSet(i+1, set) {
					sums[set] += weight
				}
			}
		}
		// Limits that are just reached, or just not.
		for set := 0; set < 64; set += 7 {
			limits = append(limits, max(sums[set]-1, 0), sums[set], sums[set]+1)
		}
		for _, limit := range limits {
			members := [64]bool{}
			for set, sum := range sums {
				members[set] = sum >= limit
			}
			got, ok := impl.WeightFamily(weights, limit)
			wantFamily(t, got, ok, members, "WeightFamily", weights, limit)
		}
	}
}

func TestEqualWeightsMakeAThreshold(t *testing.T) {
	for n := range 7 {
		weights := [6]int{}
		for i := range n {
			weights[i] = 1
		}
		for k := range n + 2 {
			threshold, ok := impl.ThresholdFamily(n, k)
			got, fine := impl.WeightFamily(weights, k)
			wantWord(t, got.Sets, ok && fine, threshold.Sets, "WeightFamily", weights, k)
		}
	}
}

func TestWeightFamilyRefusesNumbers(t *testing.T) {
	for i := range 6 {
		for _, bad := range append(noFrom(0, 99), 100, 199, 999, 1000) {
			for _, weights := range [][6]int{{}, {1, 1, 1, 1, 1, 1}, {99, 99, 99, 99, 99, 99}} {
				weights[i] = bad
				for _, limit := range []int{-1, 0, 1, 100, 999, 1000} {
					got, ok := impl.WeightFamily(weights, limit)
					wantNoFamily(t, got, ok, "WeightFamily", weights, limit)
				}
			}
		}
		// The bounds themselves are weights.
		for _, good := range []int{0, 1, 98, 99} {
			weights := [6]int{3, 3, 3, 3, 3, 3}
			weights[i] = good
			if _, ok := impl.WeightFamily(weights, 4); !ok {
				t.Errorf("WeightFamily(%v, 4) failed", weights)
			}
		}
	}
	for _, weights := range append(variedWeights(), [6]int{-1, 1}, [6]int{math.MaxInt, math.MaxInt}) {
		for _, bad := range noFrom(0, 999) {
			got, ok := impl.WeightFamily(weights, bad)
			wantNoFamily(t, got, ok, "WeightFamily", weights, bad)
		}
	}
}

func TestOutFixKnown(t *testing.T) {
	known := []struct {
		sets []int
		set  int
		out  []int
		fix  []int
	}{
		{nil, 0, nil, nil}, {nil, 63, nil, nil}, {[]int{0}, 0, []int{0}, []int{0}}, {[]int{0}, 63, []int{0}, []int{0}},
		{[]int{3, 5, 6}, 0, []int{3, 5, 6}, []int{3, 5, 6}}, {[]int{3, 5, 6}, 63, []int{0}, nil},
		{[]int{3, 5, 6}, 1, []int{2, 4}, []int{6}}, {[]int{3, 5, 6}, 3, []int{0}, nil}, {[]int{3, 5, 6}, 56, []int{3, 5, 6}, []int{3, 5, 6}},
		{[]int{1}, 1, []int{0}, nil}, {[]int{1}, 2, []int{1}, []int{1}}, {[]int{63}, 63, []int{0}, nil},
		{[]int{63}, 62, []int{1}, nil}, {[]int{7, 24}, 7, []int{0}, []int{24}}, {[]int{7, 24}, 8, []int{7, 16}, []int{7}},
		{[]int{7, 24}, 9, []int{6, 16}, nil}, {[]int{1, 62}, 1, []int{0}, []int{62}}, {[]int{1, 62}, 62, []int{0}, []int{1}},
		{[]int{1, 62}, 30, []int{1, 32}, []int{1}}, {[]int{3, 12, 48}, 21, []int{2, 8, 32}, nil},
		{[]int{3, 12, 48}, 4, []int{3, 8, 48}, []int{3, 48}}, {[]int{5, 6, 24, 32}, 4, []int{1, 2, 24, 32}, []int{24, 32}},
		{[]int{3, 5}, 1, []int{2, 4}, nil}, {[]int{3, 6, 12}, 2, []int{1, 4}, []int{12}},
	}
	for _, k := range known {
		out, ok := impl.OutFamily(family(k.sets...), k.set)
		wantWord(t, out.Sets, ok, k.out, "OutFamily", k.sets, k.set)
		fix, ok := impl.FixFamily(family(k.sets...), k.set)
		wantWord(t, fix.Sets, ok, k.fix, "FixFamily", k.sets, k.set)
	}
}

func TestOutFixOfAllSets(t *testing.T) {
	for _, sets := range manyFamilies() {
		f, members := family(sets...), wantMembers(sets)
		before, _ := impl.CountMembers(f, 6)
		for set := range 64 {
			out, fix := [64]bool{}, [64]bool{}
			for other := range 64 {
				out[other] = members[other|set]
				fix[other] = members[without(other, set)]
			}
			gotOut, ok := impl.OutFamily(f, set)
			wantFamily(t, gotOut, ok, out, "OutFamily", sets, set)
			gotFix, ok := impl.FixFamily(f, set)
			wantFamily(t, gotFix, ok, fix, "FixFamily", sets, set)
			more, _ := impl.CountMembers(gotOut, 6)
			fewer, _ := impl.CountMembers(gotFix, 6)
			if more < before || fewer > before {
				t.Errorf("%v has %d members, %d with %d out, and %d with it fixed", sets, before, more, set, fewer)
			}
			if has, _ := impl.HasMember(f, set); has && (len(gotOut.Sets) != 1 || gotOut.Sets[0] != 0) {
				t.Errorf("OutFamily(%v, %d) = %v, of a member", sets, set, gotOut)
			}
		}
	}
}

// What falls for a set with some nails out is what the word without their letters falls for.
func TestOutFamilyIsThatOfTheWordWithNailsOut(t *testing.T) {
	for _, c := range edgeCases() {
		f, _ := impl.FamilyOfWord(c.w)
		for set := range 64 {
			left, _ := impl.TakeOut(c.w, set)
			want, _ := impl.FamilyOfWord(left)
			got, ok := impl.OutFamily(f, set)
			wantWord(t, got.Sets, ok, want.Sets, "OutFamily of", c.w, set)
		}
	}
}
