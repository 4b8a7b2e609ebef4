package tests

import (
	"slices"
	"testing"

	"loop.example/g01206/impl"
)

// wantEdges are all sets with a report of their own of which no other one with this report is a
// part, or, for the outer edge, of which they are a part.
func wantEdges(falls [64]bool, report bool, outer bool) []int {
	edges := []int{}
	for set := range falls {
		isEdge := falls[set] == report
		for other := range falls {
			beyond := isPart(other, set)
			if outer {
				beyond = isPart(set, other)
			}
			if other != set && beyond && falls[other] == report {
				isEdge = false
			}
		}
		if isEdge {
			edges = append(edges, set)
		}
	}
	return edges
}

// wantMattering are the nails that matter, by the document's definition.
func wantMattering(falls [64]bool) int {
	nails := 0
	for nail := 1; nail <= 6; nail++ {
		alone := []int{0, 1, 2, 4, 8, 16, 32}[nail]
		matters := false
		for set := range falls {
			matters = matters || !inSet(nail, set) && !falls[set] && falls[set+alone]
		}
		if matters {
			nails += alone
		}
	}
	return nails
}

// checkEdges checks what a word answers against an edge case.
func checkEdges(t *testing.T, c edgeCase) {
	t.Helper()
	least, ok := impl.LeastFalls(c.w)
	wantWord(t, least, ok, c.least, "LeastFalls", c.w)
	greatest, ok := impl.GreatestHangs(c.w)
	wantWord(t, greatest, ok, c.greatest, "GreatestHangs", c.w)
	if size, fewest, ok := impl.FewestNails(c.w); !ok || size != c.size || fewest != c.fewest {
		t.Errorf("FewestNails(%v) = %d, %d, %v", c.w, size, fewest, ok)
	}
	if matter, ok := impl.MatteringNails(c.w); !ok || matter != c.matter {
		t.Errorf("MatteringNails(%v) = %d, %v", c.w, matter, ok)
	}
	for nail := 1; nail <= 6; nail++ {
		if hides, ok := impl.HidesNail(c.w, nail); !ok || hides != inSet(nail, c.hidden) {
			t.Errorf("HidesNail(%v, %d) = %v, %v", c.w, nail, hides, ok)
		}
	}
}

func TestEdgesOfKnownWords(t *testing.T) {
	for _, c := range edgeCases() {
		checkEdges(t, c)
	}
}

func TestEdgesOfManyWords(t *testing.T) {
	for _, w := range fallWords() {
		falls := wantFalls(w)
		c := edgeCase{w: w, least: wantEdges(falls, true, false), greatest: wantEdges(falls, false, true)}
		c.fewest = c.least[0]
		for _, set := range c.least {
			if wantSize(set) < wantSize(c.fewest) {
				c.fewest = set
			}
		}
		c.size = wantSize(c.fewest)
		c.matter = wantMattering(falls)
		for _, letter := range wantReduced(w) {
			nail := max(letter, -letter)
			if !inSet(nail, c.matter) {
				c.hidden |= []int{0, 1, 2, 4, 8, 16, 32}[nail]
			}
		}
		checkEdges(t, c)
	}
}

func TestEachSetIsWithinTheEdges(t *testing.T) {
	for _, w := range fallWords() {
		table, _ := impl.FallTable(w)
		least, _ := impl.LeastFalls(w)
		greatest, _ := impl.GreatestHangs(w)
		if !slices.IsSorted(least) || !slices.IsSorted(greatest) || len(least) == 0 || table[0] != (len(greatest) == 0) {
			t.Errorf("edges of %v: %v and %v", w, least, greatest)
		}
		for set, falls := range table {
			hasLeast := slices.ContainsFunc(least, func(part int) bool { return isPart(part, set) })
			inGreatest := slices.ContainsFunc(greatest, func(whole int) bool { return isPart(set, whole) })
			if falls != hasLeast || falls == inGreatest {
				t.Errorf("%v and the set %d: it falls %v, edges %v and %v", w, set, falls, least, greatest)
			}
		}
	}
}

func TestFewestNailsIsALeastSet(t *testing.T) {
	for _, w := range fallWords() {
		table, _ := impl.FallTable(w)
		least, _ := impl.LeastFalls(w)
		size, fewest, ok := impl.FewestNails(w)
		if !ok || !slices.Contains(least, fewest) || wantSize(fewest) != size || !table[fewest] {
			t.Errorf("FewestNails(%v) = %d, %d, %v, of %v", w, size, fewest, ok, least)
		}
		for set, falls := range table {
			if falls && (wantSize(set) < size || wantSize(set) == size && set < fewest) {
				t.Errorf("FewestNails(%v) = %d, %d, but it falls for %d", w, size, fewest, set)
			}
		}
	}
}

// The nails that matter are those of the least sets, and those that greatest sets leave out.
func TestMatteringNailsAreThoseOfTheEdges(t *testing.T) {
	for _, w := range fallWords() {
		matter, _ := impl.MatteringNails(w)
		least, _ := impl.LeastFalls(w)
		greatest, _ := impl.GreatestHangs(w)
		used, spared := 0, 0
		for _, set := range least {
			used |= set
		}
		for _, set := range greatest {
			spared |= 63 - set
		}
		if matter != used || matter != spared {
			t.Errorf("MatteringNails(%v) = %d, of %v and %v", w, matter, least, greatest)
		}
		nails, _ := impl.NailsOf(wantReduced(w))
		if !isPart(matter, nails) {
			t.Errorf("MatteringNails(%v) = %d, of %d", w, matter, nails)
		}
	}
}
