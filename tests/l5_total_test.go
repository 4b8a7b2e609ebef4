package tests

import (
	"slices"
	"testing"

	"loop.example/g01206/impl"
)

// refuseNoFamilies checks that functions fail if the Sets in their first list are not valid,
// whatever the second.
func refuseNoFamilies(t *testing.T, calls []wordCall, second ...[]int) {
	t.Helper()
	for _, sets := range noFamilies() {
		for _, other := range second {
			for _, c := range calls {
				if got := c.call(sets, other); !got.failed {
					t.Errorf("%s(%v, %v) = %s", c.name, sets, other, got.text)
				}
			}
		}
	}
}

func TestRulesRefuseWhatIsNoFamily(t *testing.T) {
	refuseNoFamilies(t, ruleCalls(), nil)
	refuseNoFamilies(t, pairCalls(), familiesOfAllKinds()...)
	refuseNoFamilies(t, exchanged(pairCalls()), familiesOfAllKinds()...)
	for _, set := range append(noSets(), 63) {
		refuseNoFamilies(t, []wordCall{hasMemberCall(set), outFamilyCall(set), fixFamilyCall(set)}, nil)
	}
	for _, n := range noFrom(0, 6) {
		refuseNoFamilies(t, []wordCall{dualFamilyCall(n), isSelfDualCall(n), countMembersCall(n)}, nil)
	}
}

func TestRulesRefuseWhatIsNoWord(t *testing.T) {
	refuseNoWords(t, []wordCall{familyOfWordCall()}, nil)
}

func TestRulesRefuseWhatIsNoSet(t *testing.T) {
	for _, sets := range knownFamilies() {
		for _, set := range append(noSets(), -1, 64) {
			refuse(t, sets, hasMemberCall(set), outFamilyCall(set), fixFamilyCall(set))
		}
		for _, set := range []int{0, 1, 32, 62, 63} {
			_, has := impl.HasMember(family(sets...), set)
			_, out := impl.OutFamily(family(sets...), set)
			_, fix := impl.FixFamily(family(sets...), set)
			if !has || !out || !fix {
				t.Errorf("functions of %v and %d failed: %v, %v, %v", sets, set, has, out, fix)
			}
		}
	}
}

func TestRulesRefuseWhatIsNoNumberOfNails(t *testing.T) {
	for _, sets := range knownFamilies() {
		for _, n := range append(noFrom(0, 6), -1, 7) {
			refuse(t, sets, dualFamilyCall(n), isSelfDualCall(n), countMembersCall(n))
		}
		for _, n := range []int{0, 6} {
			if _, ok := impl.CountMembers(family(sets...), n); !ok {
				t.Errorf("CountMembers(%v, %d) failed", sets, n)
			}
		}
		_, dual := impl.DualFamily(family(sets...), 6)
		_, self := impl.IsSelfDual(family(sets...), 6)
		if !dual || !self {
			t.Errorf("duals of %v failed: %v, %v", sets, dual, self)
		}
	}
}

// listCalls are all functions of chapter 5 that have a list, or the Sets of a Family.
func listCalls() []wordCall {
	return append(append(ruleCalls(), pairCalls()...), familyOfCall(), familyOfWordCall())
}

func TestRulesTakeNilAsEmpty(t *testing.T) {
	takeNilAsEmpty(t, listCalls())
}

func TestRulesLeaveArgumentsAlone(t *testing.T) {
	lists := [][]int{
		nil, {0}, {1}, {63}, {3, 5, 6}, {1, 62}, {3, 12, 48}, {7, 24}, setsOfSize(3), {6, 2, 6}, {32, 16, 1, 0}, {5, 3},
		{1, 3}, {-1, 1}, {1, 2, -1, -2}, {3, 64}, {7, 6, 5, 4, 3, 2, 1}, repeated(21, 70), {0, 1, 2, 3},
	}
	pairs := [][2][]int{}
	for _, f := range lists {
		for _, g := range lists {
			pairs = append(pairs, [2][]int{f, g})
		}
	}
	leaveAlone(t, listCalls(), pairs)
}

func TestRulesTakeSharedMemory(t *testing.T) {
	takeSharedMemory(t, pairCalls(), []int{7, 11, 13, 19, 28, 37, 56})
	takeSharedMemory(t, pairCalls(), []int{3, 5, 6, 9, 10, 12, 3})
}

// What is told of Families stays when their Sets, or a list, are changed behind the call.
func TestAnswersStayWhenTheirSetsAreChanged(t *testing.T) {
	f, g := family(3, 5, 6), family(8)
	list, w := []int{6, 5, 3}, []int{1, 2, -1, -2}
	of, _ := impl.FamilyOf(list)
	ofFamily, _ := impl.FamilyOf(f.Sets)
	ofWord, _ := impl.FamilyOfWord(w)
	and, _ := impl.AndFamily(f, g)
	or, _ := impl.OrFamily(f, g)
	twice, _ := impl.OrFamily(f, f)
	self, _ := impl.AndFamily(f, f)
	dual, _ := impl.DualFamily(f, 3)
	out, _ := impl.OutFamily(f, 0)
	fix, _ := impl.FixFamily(f, 0)
	for _, numbers := range [][]int{f.Sets, g.Sets, list, w} {
		spoil(numbers)
	}
	half := []int{3, 5, 6}
	for _, pair := range [][2][]int{
		{of.Sets, half}, {ofFamily.Sets, half}, {ofWord.Sets, {1, 2}}, {and.Sets, {11, 13, 14}}, {or.Sets, {3, 5, 6, 8}},
		{twice.Sets, half}, {self.Sets, half}, {dual.Sets, half}, {out.Sets, half}, {fix.Sets, half},
	} {
		if !slices.Equal(pair[0], pair[1]) {
			t.Errorf("%v, not %v", pair[0], pair[1])
		}
	}
}

// A change of an answer changes no later one, also where there are numbers alone as arguments.
func TestFamiliesAreTheirOwn(t *testing.T) {
	weights := [6]int{2, 1, 1}
	first, _ := impl.ThresholdFamily(3, 2)
	heavy, _ := impl.WeightFamily(weights, 2)
	counts, _ := impl.PivotCounts(family(1, 6))
	spoil(first.Sets)
	spoil(heavy.Sets)
	counts[0] = 99
	again, ok := impl.ThresholdFamily(3, 2)
	wantWord(t, again.Sets, ok, []int{3, 5, 6}, "ThresholdFamily", 3, 2)
	again, ok = impl.WeightFamily(weights, 2)
	wantWord(t, again.Sets, ok, []int{1, 6}, "WeightFamily", weights, 2)
	if now, ok := impl.PivotCounts(family(1, 6)); !ok || now != [6]int{24, 8, 8} {
		t.Error("PivotCounts", now, ok)
	}
	if weights != [6]int{2, 1, 1} {
		t.Error("weights", weights)
	}
}
