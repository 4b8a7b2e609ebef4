package tests

import (
	"math"
	"slices"
	"strconv"
	"testing"

	"loop.example/g01206/impl"
)

// family returns the Family with these Sets, as they stand.
func family(sets ...int) impl.Family {
	return impl.Family{Sets: sets}
}

// without returns the nails of a set that are not in another one.
func without(set int, other int) int {
	return set - set&other
}

// subsetsOf is how many sets there are of n nails.
func subsetsOf(n int) int {
	return []int{1, 2, 4, 8, 16, 32, 64}[n]
}

// wantMembers tells for each set whether it has one of a list of sets as a part.
func wantMembers(sets []int) [64]bool {
	members := [64]bool{}
	for _, part := range sets {
		for set := range members {
			members[set] = members[set] || isPart(part, set)
		}
	}
	return members
}

// wantFamily checks that a call has returned the Family with these members.
func wantFamily(t *testing.T, got impl.Family, ok bool, members [64]bool, call ...any) {
	t.Helper()
	wantWord(t, got.Sets, ok, wantEdges(members, true, false), call...)
}

// wantNoFamily checks that a call that returns a Family has failed.
func wantNoFamily(t *testing.T, got impl.Family, ok bool, call ...any) {
	t.Helper()
	wantNone(t, got.Sets, ok, call...)
}

// setsOfSize are all sets of as many nails, in ascending order.
func setsOfSize(size int) []int {
	sets := []int{}
	for set := range 64 {
		if wantSize(set) == size {
			sets = append(sets, set)
		}
	}
	return sets
}

// allFamilies returns the Sets of each Family of the nails 1..n: a set is put behind those of
// which none is a part of it, and none of them can have it as a part, as they are less.
func allFamilies(n int) [][]int {
	families := [][]int{{}}
	for set := range subsetsOf(n) {
		for _, sets := range families {
			if !wantMembers(sets)[set] {
				families = append(families, joined(sets, []int{set}))
			}
		}
	}
	return families
}

// knownFamilies are Sets of valid Families, written by hand.
func knownFamilies() [][]int {
	families := [][]int{
		nil, {0}, {63}, {1, 2}, {1, 6}, {3, 4}, {3, 5, 6}, {7, 24}, {24, 40, 48}, {1, 62}, {31, 32}, {3, 12, 48},
		{1, 2, 4}, {1, 2, 4, 8, 16, 32}, {2, 5, 9}, {3, 6, 12, 24, 33, 48}, {31, 47, 55, 59, 61, 62}, {7, 11, 13, 14, 48},
		{15, 51, 60}, {21, 42}, {5, 6, 24, 32}, {30, 33}, {9, 18, 36}, {7, 25, 42, 52},
	}
	for size := 1; size <= 6; size++ {
		families = append(families, setsOfSize(size))
	}
	for _, set := range []int{1, 2, 4, 8, 16, 32, 3, 10, 48, 56, 21} {
		families = append(families, []int{set})
	}
	return families
}

// variedLists are lists of sets in any order, some of them told twice or more.
func variedLists() [][]int {
	lists := [][]int{}
	state := 2024
	for round := range 120 {
		list := make([]int, 1+round%17)
		for i := range list {
			state = (state*1103515245 + 12345) % (1 << 31)
			list[i] = state >> 16 % 64
			if round%3 == 0 && wantSize(list[i]) < 2 {
				list[i] = 63 - list[i]
			}
		}
		lists = append(lists, list)
	}
	return lists
}

// manyFamilies are the Sets of Families that tests of all functions share: all those of three
// nails, and known and varied ones of all six.
func manyFamilies() [][]int {
	families := append(allFamilies(3), knownFamilies()...)
	for _, list := range variedLists() {
		families = append(families, wantEdges(wantMembers(list), true, false))
	}
	return families
}

// noFamilies are lists that are no Sets of a valid Family.
func noFamilies() [][]int {
	ascending := []int{}
	for set := range 65 {
		ascending = append(ascending, set)
	}
	return [][]int{
		// Equal ones, and such as descend.
		{0, 0}, {1, 1}, {63, 63}, {3, 5, 5}, {3, 3, 5, 6}, {3, 5, 6, 6}, {2, 1}, {6, 1}, {48, 3}, {3, 6, 5}, {5, 3, 6},
		{32, 16, 8, 4, 2, 1}, {1, 2, 4, 8, 32, 16}, {2, 1, 4, 8, 16, 32}, {62, 1},
		// A part among them, beside the other one or not, and the Set 0 beside others.
		{0, 1}, {0, 63}, {0, 3, 5}, {1, 0}, {1, 3}, {2, 3}, {32, 63}, {3, 7}, {1, 2, 3}, {1, 2, 4, 24, 40, 41}, {3, 5, 6, 7},
		{3, 4, 7}, {5, 10, 15}, {3, 12, 48, 51}, {1, 62, 63}, {31, 32, 62}, {9, 18, 36, 63}, {4, 3, 7}, {7, 3},
		// Numbers that are no sets.
		{-1}, {64}, {-1, 0}, {-1, 1}, {1, 64}, {3, 5, 64}, {-1, 64}, {-2, 1, 4}, {-64}, {65}, {127}, {128}, {31, 64}, {63, 64},
		{math.MinInt}, {math.MaxInt}, {math.MinInt, math.MaxInt}, {1, math.MaxInt}, {math.MinInt, 1}, {1, 2, 1 << 32},
		{1 << 32}, {1<<32 + 1}, {-1 << 32}, {257},
		// More than 64 of them.
		ascending, ascending[1:], ascending[:64], make([]int, 65), repeated(1, 65), repeated(63, 5000),
		repeated(-1, 65), joined(setsOfSize(3), ascending), joined(setsOfSize(3), repeated(64, 65)),
	}
}

// familiesOfAllKinds are Sets of valid Families and others, which stand beside those that are
// not valid.
func familiesOfAllKinds() [][]int {
	return append(noFamilies(), nil, []int{0}, []int{1}, []int{3, 5, 6}, []int{63}, setsOfSize(3))
}

// noFrom returns numbers outside of low..high: those just outside, and far ones.
func noFrom(low int, high int) []int {
	numbers := []int{low - 1, low - 2, low - 63, low - 64, high + 1, high + 2, high + 64, math.MaxInt, math.MinInt}
	return append(numbers, math.MinInt+1, math.MaxInt-1, 1<<32, 1<<32+1, -1<<32, -1<<32+1, 1<<62, -1<<62)
}

// ruleCalls are the functions of one Family, told by its Sets, some with numbers that are valid.
func ruleCalls() []wordCall {
	calls := []wordCall{
		{"IsFamily", func(u, _ []int) outcome { return outcomeOf(impl.IsFamily(family(u...))) }},
		{"PivotCounts", func(u, _ []int) outcome { a, ok := impl.PivotCounts(family(u...)); return outcomeOf(a, ok) }},
	}
	for _, set := range []int{0, 1, 6, 63} {
		calls = append(calls, hasMemberCall(set), outFamilyCall(set), fixFamilyCall(set))
	}
	for n := range 7 {
		calls = append(calls, dualFamilyCall(n), isSelfDualCall(n), countMembersCall(n))
	}
	return calls
}

// pairCalls are the functions of two Families, told by their Sets.
func pairCalls() []wordCall {
	return []wordCall{
		{"AndFamily", func(u, v []int) outcome {
			a, ok := impl.AndFamily(impl.Family{Sets: u}, impl.Family{Sets: v})
			return outcomeOf(a.Sets, ok)
		}},
		{"OrFamily", func(u, v []int) outcome {
			a, ok := impl.OrFamily(impl.Family{Sets: u}, impl.Family{Sets: v})
			return outcomeOf(a.Sets, ok)
		}},
	}
}

func hasMemberCall(set int) wordCall {
	return wordCall{"HasMember " + strconv.Itoa(set), func(u, _ []int) outcome {
		a, ok := impl.HasMember(impl.Family{Sets: u}, set)
		return outcomeOf(a, ok)
	}}
}

func outFamilyCall(set int) wordCall {
	return wordCall{"OutFamily " + strconv.Itoa(set), func(u, _ []int) outcome {
		a, ok := impl.OutFamily(impl.Family{Sets: u}, set)
		return outcomeOf(a.Sets, ok)
	}}
}

func fixFamilyCall(set int) wordCall {
	return wordCall{"FixFamily " + strconv.Itoa(set), func(u, _ []int) outcome {
		a, ok := impl.FixFamily(impl.Family{Sets: u}, set)
		return outcomeOf(a.Sets, ok)
	}}
}

func dualFamilyCall(n int) wordCall {
	return wordCall{"DualFamily " + strconv.Itoa(n), func(u, _ []int) outcome {
		a, ok := impl.DualFamily(impl.Family{Sets: u}, n)
		return outcomeOf(a.Sets, ok)
	}}
}

func isSelfDualCall(n int) wordCall {
	return wordCall{"IsSelfDual " + strconv.Itoa(n), func(u, _ []int) outcome {
		a, ok := impl.IsSelfDual(impl.Family{Sets: u}, n)
		return outcomeOf(a, ok)
	}}
}

func countMembersCall(n int) wordCall {
	return wordCall{"CountMembers " + strconv.Itoa(n), func(u, _ []int) outcome {
		a, ok := impl.CountMembers(impl.Family{Sets: u}, n)
		return outcomeOf(a, ok)
	}}
}

func familyOfCall() wordCall {
	return wordCall{"FamilyOf", func(u, _ []int) outcome { a, ok := impl.FamilyOf(u); return outcomeOf(a.Sets, ok) }}
}

func familyOfWordCall() wordCall {
	return wordCall{"FamilyOfWord", func(u, _ []int) outcome {
		a, ok := impl.FamilyOfWord(u)
		return outcomeOf(a.Sets, ok)
	}}
}

// nailsIn is the set of all nails of a list of sets.
func nailsIn(sets []int) int {
	nails := 0
	for _, set := range sets {
		nails |= set
	}
	return nails
}

// reversed returns a list from its end.
func reversed(list []int) []int {
	turned := slices.Clone(list)
	slices.Reverse(turned)
	return turned
}
