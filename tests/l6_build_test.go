package tests

import (
	"testing"

	"loop.example/g01206/impl"
)

// buildCase is the Sets of a Family, and the words that are built for it, as texts; "-" is none.
type buildCase struct {
	sets                 []int
	whole, halves, least string
}

func buildCases() []buildCase {
	return []buildCase{
		{nil, "-", "-", "-"}, {[]int{0}, "", "", ""}, {[]int{1}, "a", "a", "a"}, {[]int{5}, "ac", "ac", "ac"},
		{[]int{32}, "f", "f", "f"}, {[]int{63}, "abcdef", "abcdef", "abcdef"}, {[]int{1, 2}, "abAB", "abAB", "abAB"},
		{[]int{3, 4}, "abcBAC", "abcBAC", "abcBAC"}, {[]int{1, 6}, "abcACB", "abcACB", "abcACB"},
		{[]int{7, 56}, "abcdefCBAFED", "abcdefCBAFED", "abcdefCBAFED"},
		// Of words with the same length, the one of the other order comes first.
		{[]int{6, 9}, "bcadCBDA", "bcadCBDA", "adbcDACB"}, {[]int{2, 61}, "bacdefBFEDCA", "bacdefBFEDCA", "acdefbFEDCAB"},
		{[]int{12, 18, 33}, "cdbeDCEBafbecdEBDCFA", "cdbeDCEBafbecdEBDCFA", "afbeFAEBcdbeafEBFADC"},
		// Three and four Sets, and more.
		{[]int{1, 2, 4}, "abABcbaBAC", "abABcbaBAC", "abABcbaBAC"},
		{[]int{3, 12, 48}, "abcdBADCefcdabDCBAFE", "abcdBADCefcdabDCBAFE", "abcdBADCefcdabDCBAFE"},
		{[]int{1, 2, 4, 8}, "abABcbaBACdcabABCbaBAD", "abABcdCDbaBAdcDC", "abABcbaBACdcabABCbaBAD"},
		{[]int{1, 2, 12, 48}, "abABcdbaBADCefcdabABDCbaBAFE", "abABcdefDCFEbaBAefcdFEDC", "abABcdbaBADCefcdabABDCbaBAFE"},
		{[]int{1, 2, 4, 8, 16}, "abABcbaBACdcabABCbaBADedabABcbaBACDcabABCbaBAE", "abABcbaBACdeDEcabABCbaBAedED", "-"},
		{[]int{1, 2, 4, 8, 16, 32}, "-", "abABcbaBACdeDEfedEDFcabABCbaBAfdeDEFedED", "-"},
		// The longest set word comes last, so that it is written least often.
		{[]int{7, 8, 16}, "abcdCBADedabcDCBAE", "abcdCBADedabcDCBAE", "deDEabcedEDCBA"},
		{[]int{3, 4, 8}, "abcBACdcabCBAD", "abcBACdcabCBAD", "cdCDabdcDCBA"},
		{[]int{6, 9, 16, 32}, "bcadCBDAeadbcDACBEfebcadCBDAEadbcDACBF", "bcadCBDAefEFadbcDACBfeFE", "efEFadfeFEDAbcadefEFDAfeFECB"},
		// Two Sets with a nail of both have no or word as set words, but as others beside a third one.
		{[]int{3, 5}, "-", "-", "-"}, {[]int{31, 47}, "-", "-", "-"}, {[]int{3, 5, 6}, "-", "-", "-"},
		{[]int{3, 5, 24}, "-", "-", "deabEDBcabdeBAEDCA"}, {[]int{3, 5, 52}, "-", "-", "cefabFECBcabcefBAFECCA"},
		{[]int{10, 12, 17}, "-", "-", "aebdEADBcdbdaeDBEADC"},
		{[]int{24, 33, 34}, "deafEDFAbfafdeFAEDFB", "deafEDFAbfafdeFAEDFB", "afdeFAEDbfdeafEDFAFB"},
		{[]int{3, 5, 17, 24}, "-", "-", "deabEDBcabdeBAEDCeacdeabEDBACbdeBAEDEA"},
		{[]int{3, 6, 12, 48}, "-", "-", "abcdBADCbccdabDCBACBefbcabcdBADCCBcdabDCBAFE"},
		{[]int{7, 25, 42, 52}, "-", "-", "-"},
	}
}

// wantBuilt checks a word that is built against a text.
func wantBuilt(t *testing.T, got []int, ok bool, text string, call ...any) {
	t.Helper()
	if text == "-" {
		wantNone(t, got, ok, call...)
		return
	}
	wantWord(t, got, ok, wordOf(text), call...)
}

func TestBuildKnown(t *testing.T) {
	for _, c := range buildCases() {
		f := family(c.sets...)
		whole, ok := impl.BuildWord(f)
		wantBuilt(t, whole, ok, c.whole, "BuildWord", c.sets)
		cost, ok := impl.CostOf(f)
		if ok != (c.whole != "-") || ok && cost != len(c.whole) || !ok && cost != 0 {
			t.Errorf("CostOf(%v) = %d, %v", c.sets, cost, ok)
		}
		halves, ok := impl.BuildHalves(f)
		wantBuilt(t, halves, ok, c.halves, "BuildHalves", c.sets)
		least, ok := impl.BuildShort(f)
		wantBuilt(t, least, ok, c.least, "BuildShort", c.sets)
	}
}

// buildFamilies are the Sets of Families that are built in all ways: there is a word for some of
// them, for others there is no or word at the second Set or at a later one, in one way or in all.
func buildFamilies() [][]int {
	families := append(allFamilies(3), [][]int{
		{1, 2, 24, 44}, {1, 4, 16, 42}, {1, 6, 8, 50}, {1, 6, 40, 52}, {1, 8, 22, 36}, {1, 10, 18, 28}, {3, 5, 8, 22},
		{3, 5, 9, 56}, {13, 50, 52, 57}, {14, 49, 54, 58}, {20, 43, 44, 51}, {3, 5, 9, 42}, {3, 6, 9, 12}, {2, 5, 8, 16},
		{3, 10, 24}, {7, 12, 49}, {9, 12, 22}, {9, 18, 36}, {15, 16}, {15, 48}, {15, 51, 60}, {1, 62}, {7, 24}, {5, 10},
		{1, 12, 16, 38, 42}, {3, 4, 9, 10, 48}, {5, 10, 17, 18, 40}, {3, 5, 9, 20, 32}, {2, 21, 25, 28, 41, 56},
		{1, 2, 4, 8, 48}, {1, 2, 4, 24, 32}, {1, 2, 12, 16, 32}, {3, 4, 8, 16, 32}, {2, 4, 8, 16, 32}, {3, 12, 20, 34, 36, 56},
	}...)
	for _, c := range buildCases() {
		families = append(families, c.sets)
	}
	return families
}

func TestBuildAsTheDocumentTells(t *testing.T) {
	for _, sets := range buildFamilies() {
		if len(sets) == 0 {
			continue
		}
		f, words := family(sets...), setWords(sets)
		got, ok := impl.BuildWord(f)
		want, fine := wantChain(words)
		checkKeyed(t, keyed{got, 0, ok}, keyed{want, 0, fine}, "BuildWord", sets)
		cost, ok := impl.CostOf(f)
		if ok != fine || cost != len(want) {
			t.Errorf("CostOf(%v) = %d, %v, not %d", sets, cost, ok, len(want))
		}
		got, ok = impl.BuildHalves(f)
		want, fine = wantHalves(words)
		checkKeyed(t, keyed{got, 0, ok}, keyed{want, 0, fine}, "BuildHalves", sets)
		got, ok = impl.BuildShort(f)
		want, fine = nil, false
		if len(sets) <= 4 {
			want, fine = wantShort(words)
		}
		checkKeyed(t, keyed{got, 0, ok}, keyed{want, 0, fine}, "BuildShort", sets)
	}
}

// What is built is for the Family, and BuildShort has no more letters than BuildWord.
func TestWhatIsBuiltIsForTheFamily(t *testing.T) {
	for _, sets := range append(manyFamilies(), buildFamilies()...) {
		f := family(sets...)
		whole, ok := impl.BuildWord(f)
		halves, fine := impl.BuildHalves(f)
		least, is := impl.BuildShort(f)
		wantForFamily(t, whole, ok, sets, "BuildWord")
		wantForFamily(t, halves, fine, sets, "BuildHalves")
		wantForFamily(t, least, is, sets, "BuildShort")
		few := len(sets) >= 1 && len(sets) <= 4
		if is && !few || ok && few && !is {
			t.Errorf("BuildShort(%v): %v", sets, is)
		}
		if ok && is && len(least) > len(whole) {
			t.Errorf("BuildShort(%v) = %v, but BuildWord is %v", sets, least, whole)
		}
		if cost, has := impl.CostOf(f); has != ok || cost != len(whole) {
			t.Errorf("CostOf(%v) = %d, %v, but BuildWord is %v", sets, cost, has, whole)
		}
	}
}

// wantForFamily checks that a word, if it could be built, is reduced and falls for just the members.
func wantForFamily(t *testing.T, w []int, ok bool, sets []int, name string) {
	t.Helper()
	if !ok {
		wantNone(t, w, ok, name, sets)
		return
	}
	reduced, _ := impl.IsReduced(w)
	is, _ := impl.IsWordFor(w, family(sets...))
	if !reduced || !is || wantFalls(w) != wantMembers(sets) {
		t.Errorf("%s(%v) = %v: reduced %v, for the Family %v", name, sets, w, reduced, is)
	}
}

func TestBuildShortTakesFourSetsAtMost(t *testing.T) {
	for size, sets := range map[int][]int{
		0: nil, 1: {4}, 2: {4, 8}, 3: {4, 8, 16}, 4: {4, 8, 16, 32}, 5: {2, 4, 8, 16, 32}, 6: {1, 2, 4, 8, 16, 32},
	} {
		if _, ok := impl.BuildShort(family(sets...)); ok != (size >= 1 && size <= 4) {
			t.Errorf("BuildShort of %d Sets: %v", size, ok)
		}
	}
}

// The words of single nails are the left and balanced words of chapter 4.
func TestBuildOfSingleNails(t *testing.T) {
	sets, nails := []int{}, []int{}
	for nail := 1; nail <= 6; nail++ {
		sets, nails = append(sets, subsetsOf(nail-1)), append(nails, nail)
		whole, ok := impl.BuildWord(family(sets...))
		left, fine := impl.LeftWord(nails)
		checkKeyed(t, keyed{whole, 0, ok}, keyed{left, 0, fine}, "BuildWord", sets)
		halves, ok := impl.BuildHalves(family(sets...))
		balanced, fine := impl.BalancedWord(nails)
		checkKeyed(t, keyed{halves, 0, ok}, keyed{balanced, 0, fine}, "BuildHalves", sets)
	}
}
