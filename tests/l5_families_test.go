package tests

import (
	"math"
	"slices"
	"testing"

	"loop.example/g01206/impl"
)

func TestValidFamilies(t *testing.T) {
	for _, sets := range append(manyFamilies(), allFamilies(4)...) {
		if !impl.IsFamily(family(sets...)) {
			t.Errorf("IsFamily(%v) is false", sets)
		}
	}
	if !impl.IsFamily(impl.Family{}) || !impl.IsFamily(impl.Family{Sets: []int{}}) {
		t.Error("IsFamily without Sets is false")
	}
	for set := range 64 {
		if !impl.IsFamily(family(set)) {
			t.Errorf("IsFamily of the Set %d alone is false", set)
		}
	}
	// No valid Family has more Sets than that of all sets of three nails.
	most := setsOfSize(3)
	if len(most) != 20 || !impl.IsFamily(family(most...)) {
		t.Error("IsFamily of the most Sets is false", most)
	}
	for set := range 64 {
		more := append(slices.Clone(most), set)
		slices.Sort(more)
		if impl.IsFamily(family(more...)) {
			t.Errorf("IsFamily(%v) is true", more)
		}
	}
}

func TestFamiliesThatAreNotValid(t *testing.T) {
	for _, sets := range noFamilies() {
		if impl.IsFamily(family(sets...)) {
			t.Errorf("IsFamily(%v) is true", sets)
		}
	}
	for _, set := range noSets() {
		if impl.IsFamily(family(set)) || impl.IsFamily(family(1, set)) || impl.IsFamily(family(set, 62)) {
			t.Errorf("IsFamily with %d is true", set)
		}
	}
}

// wantIsFamily tells whether Sets are valid, by the document's definition.
func wantIsFamily(sets []int) bool {
	for i, set := range sets {
		if set < 0 || set > 63 {
			return false
		}
		for _, later := range sets[i+1:] {
			if later <= set || later > 63 || isPart(set, later) || isPart(later, set) {
				return false
			}
		}
	}
	return true
}

func TestIsFamilyOfAllShortLists(t *testing.T) {
	check := func(sets ...int) {
		if impl.IsFamily(family(sets...)) != wantIsFamily(sets) {
			t.Errorf("IsFamily(%v) is %v", sets, !wantIsFamily(sets))
		}
	}
	for a := -2; a <= 66; a++ {
		check(a)
		for b := -2; b <= 66; b++ {
			check(a, b)
		}
	}
	for a := range 16 {
		for b := range 16 {
			for c := range 16 {
				check(a, b, c)
				check(4*a, 4*b, 4*c)
			}
		}
	}
}

func TestHasMemberKnown(t *testing.T) {
	known := []struct {
		sets    []int
		members []int
		others  []int
	}{
		{nil, nil, []int{0, 1, 31, 62, 63}},
		{[]int{0}, []int{0, 1, 32, 62, 63}, nil},
		{[]int{63}, []int{63}, []int{0, 1, 31, 62, 47}},
		{[]int{1}, []int{1, 3, 33, 63, 61}, []int{0, 2, 32, 62}},
		{[]int{32}, []int{32, 33, 63, 48}, []int{0, 1, 31, 16}},
		{[]int{3, 5, 6}, []int{3, 5, 6, 7, 63, 11, 37}, []int{0, 1, 2, 4, 8, 56, 57, 60}},
		{[]int{7, 24}, []int{7, 24, 15, 23, 25, 31, 56}, []int{0, 3, 6, 8, 16, 11, 19, 43}},
		{[]int{1, 62}, []int{1, 62, 63, 31}, []int{0, 2, 30, 60, 46}},
	}
	for _, k := range known {
		for _, set := range k.members {
			if has, ok := impl.HasMember(family(k.sets...), set); !ok || !has {
				t.Errorf("HasMember(%v, %d) = %v, %v", k.sets, set, has, ok)
			}
		}
		for _, set := range k.others {
			if has, ok := impl.HasMember(family(k.sets...), set); !ok || has {
				t.Errorf("HasMember(%v, %d) = %v, %v", k.sets, set, has, ok)
			}
		}
	}
}

func TestHasMemberOfAllSets(t *testing.T) {
	for _, sets := range append(manyFamilies(), allFamilies(4)...) {
		for set, want := range wantMembers(sets) {
			if has, ok := impl.HasMember(family(sets...), set); !ok || has != want {
				t.Errorf("HasMember(%v, %d) = %v, %v", sets, set, has, ok)
			}
		}
	}
}

func TestFamilyOfKnown(t *testing.T) {
	all := []int{}
	for set := range 64 {
		all = append(all, set)
	}
	known := []struct{ list, sets []int }{
		{nil, nil}, {[]int{}, nil}, {[]int{0}, []int{0}}, {[]int{0, 0, 0}, []int{0}}, {[]int{63}, []int{63}},
		{[]int{5, 0, 3}, []int{0}}, {[]int{63, 1, 0}, []int{0}}, {[]int{2, 1}, []int{1, 2}}, {[]int{6, 2, 6}, []int{2}},
		{[]int{32, 16, 8, 4, 2, 1}, []int{1, 2, 4, 8, 16, 32}}, {[]int{7, 3}, []int{3}}, {[]int{3, 7}, []int{3}},
		{[]int{7, 6, 5, 3}, []int{3, 5, 6}}, {[]int{63, 62, 61, 1}, []int{1, 62}}, {[]int{24, 7, 31, 24, 63}, []int{7, 24}},
		{[]int{48, 3, 12, 51, 15, 60, 63}, []int{3, 12, 48}}, {[]int{1, 3, 7, 15, 31, 63}, []int{1}},
		{[]int{63, 31, 15, 7, 3, 1}, []int{1}}, {[]int{62, 60, 56, 48, 32}, []int{32}}, {all, []int{0}},
		{all[1:], []int{1, 2, 4, 8, 16, 32}}, {reversed(all), []int{0}}, {reversed(all[1:]), []int{1, 2, 4, 8, 16, 32}},
		{repeated(21, 1000), []int{21}}, {joined(repeated(3, 40000), repeated(12, 40000), repeated(48, 40000)), []int{3, 12, 48}},
		{joined(repeated(63, 100000), []int{62, 1}), []int{1, 62}}, {joined([]int{5}, repeated(7, 5000), []int{0}), []int{0}},
	}
	for _, k := range known {
		got, ok := impl.FamilyOf(k.list)
		wantWord(t, got.Sets, ok, k.sets, "FamilyOf", k.list)
	}
}

func TestFamilyOfManyLists(t *testing.T) {
	lists := variedLists()
	for size := range 7 {
		lists = append(lists, setsOfSize(size), reversed(setsOfSize(size)))
	}
	for _, list := range lists {
		members := wantMembers(list)
		for _, other := range [][]int{list, reversed(list), slices.Repeat(list, 3), slices.Sorted(slices.Values(list))} {
			got, ok := impl.FamilyOf(other)
			wantFamily(t, got, ok, members, "FamilyOf", other)
			if !impl.IsFamily(got) {
				t.Errorf("FamilyOf(%v) = %v, which is not valid", other, got)
			}
		}
	}
}

// A valid Family is that of its own Sets, in whatever order they are told.
func TestFamilyOfSetsOfFamilies(t *testing.T) {
	for _, sets := range append(manyFamilies(), allFamilies(4)...) {
		got, ok := impl.FamilyOf(sets)
		wantWord(t, got.Sets, ok, sets, "FamilyOf", sets)
		got, ok = impl.FamilyOf(reversed(sets))
		wantWord(t, got.Sets, ok, sets, "FamilyOf", sets, "from the end")
		got, ok = impl.FamilyOf(joined(sets, []int{63}, sets))
		if len(sets) == 0 {
			sets = []int{63}
		}
		wantWord(t, got.Sets, ok, sets, "FamilyOf", sets, "with all nails")
	}
}

func TestFamilyOfRefusesWhatIsNoSet(t *testing.T) {
	for _, bad := range noSets() {
		lists := [][]int{
			{bad}, {bad, bad}, {0, bad}, {bad, 0}, {1, bad, 2}, {63, bad}, {bad, 63}, {3, 5, 6, bad}, {bad, 3, 5, 6},
			joined(repeated(1, 5000), []int{bad}), joined([]int{bad}, repeated(0, 5000)),
		}
		for _, list := range lists {
			got, ok := impl.FamilyOf(list)
			wantNoFamily(t, got, ok, "FamilyOf", list)
		}
	}
	got, ok := impl.FamilyOf([]int{math.MinInt, math.MaxInt})
	wantNoFamily(t, got, ok, "FamilyOf", "the least and the greatest int")
}

func TestFamilyOfWordKnown(t *testing.T) {
	for _, c := range edgeCases() {
		got, ok := impl.FamilyOfWord(c.w)
		wantWord(t, got.Sets, ok, c.least, "FamilyOfWord", c.w)
	}
}

func TestFamilyOfManyWords(t *testing.T) {
	for _, w := range fallWords() {
		got, ok := impl.FamilyOfWord(w)
		wantFamily(t, got, ok, wantFalls(w), "FamilyOfWord", w)
		least, _ := impl.LeastFalls(w)
		wantWord(t, got.Sets, ok, least, "FamilyOfWord", w)
		if !impl.IsFamily(got) {
			t.Errorf("FamilyOfWord(%v) = %v, which is not valid", w, got)
		}
		for set := range 64 {
			falls, _ := impl.DoesFall(w, set)
			if has, ok := impl.HasMember(got, set); !ok || has != falls {
				t.Errorf("FamilyOfWord(%v) has %d: %v, %v", w, set, has, ok)
			}
		}
	}
}
