package tests

import (
	"strings"
	"testing"

	"loop.example/g01206/impl"
)

func TestLimitOfTrees(t *testing.T) {
	if impl.MaxTree != 80 {
		t.Error("limit", impl.MaxTree)
	}
}

func TestIsTree(t *testing.T) {
	letters := strings.Repeat("f", impl.MaxWord)
	deepest := leftComb(19, otherLetters).text()
	trees := []string{
		"a", "F", "aB", "aA", letters, "[a,b]", "[a,a]", "[aA,Bb]", "[a,[b,c]]", "[[a,b],c]", "[[a,b],[c,d]]",
		"[" + letters + ",abcdefABCDEFa]", "[abcdefABCDEFa," + letters + "]", "[[a,b],[" + letters + ",abcde]]",
		deepest, rightComb(19, sameLetter).text(), strings.Replace(deepest, "a", "aaaa", 1),
	}
	for _, s := range trees {
		if !impl.IsTree(s) {
			t.Errorf("a tree: %q", s)
		}
	}
	for _, b := range knownBushes() {
		if s := b.text(); impl.IsTree(s) != (len(s) <= impl.MaxTree) {
			t.Errorf("a tree: %q", s)
		}
	}
	for _, s := range noTrees() {
		if impl.IsTree(s) {
			t.Errorf("no tree: %q", s)
		}
	}
}

func TestTreesOfExactlyMaxTree(t *testing.T) {
	letters := strings.Repeat("f", impl.MaxWord)
	deepest := leftComb(19, otherLetters).text()
	for _, s := range []string{
		"[" + letters + ",abcdefABCDEFa]", "[abcdefABCDEFa," + letters + "]", strings.Replace(deepest, "a", "aaaa", 1),
		strings.Replace(rightComb(19, signedLetters).text(), "B", "BbBb", 1),
	} {
		if len(s) != impl.MaxTree || !impl.IsTree(s) {
			t.Errorf("%q has %d bytes", s, len(s))
		}
		for i := range s {
			if s[i] >= 'A' && s[i] <= 'f' && strings.IndexByte("[],", s[i]) < 0 && impl.IsTree(s[:i]+"a"+s[i:]) {
				t.Errorf("%q with one byte more at %d", s, i)
			}
		}
	}
}

// Short texts of all kinds, and the texts of trees with one byte changed, put in or taken out.
func TestIsTreeExactly(t *testing.T) {
	texts, start := []string{""}, 0
	for range 8 {
		end := len(texts)
		for _, s := range texts[start:end] {
			texts = append(texts, s+"[", s+",", s+"]", s+"a")
		}
		start = end
	}
	for _, s := range append(texts, mutants()...) {
		if is := impl.IsTree(s); is != wantTree(s) {
			t.Errorf("IsTree(%q) = %v", s, is)
		}
	}
}

// mutants are texts that differ from that of a tree, or of a leaf that is too long, by one sign.
func mutants() []string {
	texts := []string{}
	for _, s := range []string{
		"a", "aB", "[a,b]", "[a,[b,c]]", "[[a,b],c]", "[[aA,b],[C,dd]]", "[[[a,b],c],[d,[e,f]]]",
		strings.Repeat("a", 64), "[" + strings.Repeat("a", 64) + ",abcdefABCDEFa]", strings.Repeat("a", 65),
		leftComb(19, otherLetters).text(),
	} {
		for i := range len(s) + 1 {
			for _, sign := range strings.Split("[|]|,|a|F|g|G|@|`|T| |{|-|\x00|\xff|\n|é", "|") {
				texts = append(texts, s[:i]+sign+s[i:])
				if i < len(s) {
					texts = append(texts, s[:i]+sign+s[i+1:])
				}
			}
			if i < len(s) {
				texts = append(texts, s[:i]+s[i+1:])
			}
		}
	}
	return texts
}

func TestTreeValueKnown(t *testing.T) {
	known := []struct {
		s    string
		want []int
	}{
		{"a", []int{1}}, {"F", []int{-6}}, {"aA", nil}, {"abBc", []int{1, 3}},
		{strings.Repeat("a", 64), repeated(1, 64)}, {strings.Repeat("aA", 32), nil},
		{"[a,b]", []int{1, 2, -1, -2}}, {"[b,a]", []int{2, 1, -2, -1}}, {"[a,a]", nil}, {"[a,A]", nil}, {"[aA,b]", nil},
		{"[abB,Ccb]", []int{1, 2, -1, -2}}, {"[ab,c]", []int{1, 2, 3, -2, -1, -3}},
		{"[a,[b,c]]", []int{1, 2, 3, -2, -3, -1, 3, 2, -3, -2}},
		{"[[a,b],c]", []int{1, 2, -1, -2, 3, 2, 1, -2, -1, -3}},
		{"[a,[a,b]]", []int{1, 1, 2, -1, -2, -1, 2, 1, -2, -1}},
		{"[[a,b],[a,b]]", nil}, {"[[a,b],[b,a]]", nil}, {"[[a,a],b]", nil},
		// Raw lengths of 128 and more, but values that are short.
		{"[" + strings.Repeat("a", 64) + ",A]", nil}, {"[" + strings.Repeat("aA", 32) + ",bcdefbcdefbcd]", nil},
		{"[" + strings.Repeat("cC", 31) + "a,b]", []int{1, 2, -1, -2}},
		{"[[" + strings.Repeat("cC", 31) + "a,b],[a,b]]", nil},
		{leftComb(19, sameLetter).text(), nil}, {rightComb(19, sameLetter).text(), nil},
		{"[aaaaaaaaaaaaaaaa,bbbbbbbbbbbbbbbb]", rawCommutator(repeated(1, 16), repeated(2, 16))},
		{"[[aaaaaaaaaaaaaaaa,bbbbbbbbbbbbbbbb],aA]", nil},
	}
	for _, k := range known {
		got, ok := impl.TreeValue(k.s)
		wantWord(t, got, ok, k.want, "TreeValue", k.s)
	}
}

func TestTreeValueStopsAtMaxWord(t *testing.T) {
	long := "[aaaaaaaaaaaaaaaa,bbbbbbbbbbbbbbbbb]"
	for _, s := range []string{
		long, "[a," + strings.Repeat("b", 32) + "]", "[" + strings.Repeat("b", 64) + ",a]", "[[[[[a,b],c],d],e],f]",
		"[" + long + ",aA]", "[bB," + long + "]", "[" + long + "," + long + "]", "[" + long + ",[a,a]]",
		"[[a,A]," + long + "]", "[[" + long + ",c],dD]", "[[aaaaaaaaaaaaaaaa,bbbbbbbbbbbbbbbb],c]",
		"[c,[aaaaaaaaaaaaaaaa,bbbbbbbbbbbbbbbb]]", leftComb(19, otherLetters).text(), rightComb(19, otherLetters).text(),
	} {
		got, ok := impl.TreeValue(s)
		wantNone(t, got, ok, "TreeValue", s)
		// What is too long is a tree all the same.
		if _, _, shaped := impl.TreeShape(s); !shaped || !impl.IsTree(s) {
			t.Errorf("a tree: %q", s)
		}
	}
}

func TestTreeLengthAndShapeKnown(t *testing.T) {
	known := []struct {
		s                     string
		length, depth, leaves int
	}{
		{"a", 1, 0, 1}, {"aA", 2, 0, 1}, {"abBc", 4, 0, 1}, {strings.Repeat("aA", 32), 64, 0, 1}, {"[a,b]", 4, 1, 2},
		{"[a,a]", 4, 1, 2}, {"[aA,b]", 6, 1, 2}, {"[a,[b,c]]", 10, 2, 3}, {"[[a,b],c]", 10, 2, 3},
		{"[[a,b],[c,d]]", 16, 2, 4}, {"[[a,b],[c,[d,e]]]", 28, 3, 5},
		{"[[[a,b],c],[d,e]]", 28, 3, 5}, {"[abc,[b,cC]]", 18, 2, 3},
		{"[" + strings.Repeat("a", 64) + ",A]", 130, 1, 2},
		{"[" + strings.Repeat("a", 64) + "," + strings.Repeat("a", 13) + "]", 154, 1, 2},
		{leftComb(19, sameLetter).text(), 3<<19 - 2, 19, 20}, {rightComb(19, otherLetters).text(), 3<<19 - 2, 19, 20},
	}
	for _, k := range known {
		if length, ok := impl.TreeLength(k.s); !ok || length != k.length {
			t.Errorf("TreeLength(%q) = %d, %v", k.s, length, ok)
		}
		if depth, leaves, ok := impl.TreeShape(k.s); !ok || depth != k.depth || leaves != k.leaves {
			t.Errorf("TreeShape(%q) = %d, %d, %v", k.s, depth, leaves, ok)
		}
	}
}

func TestAnswersOfManyTrees(t *testing.T) {
	for _, b := range knownBushes() {
		s := b.text()
		if len(s) > impl.MaxTree {
			continue
		}
		want, short := b.value()
		got, ok := impl.TreeValue(s)
		if short {
			wantWord(t, got, ok, want, "TreeValue", s)
		} else {
			wantNone(t, got, ok, "TreeValue", s)
		}
		length, fine := impl.TreeLength(s)
		if !fine || length != b.rawLength() || len(got) > length {
			t.Errorf("TreeLength(%q) = %d, %v, but a value %v", s, length, fine, got)
		}
		depth, leaves, fine := impl.TreeShape(s)
		if !fine || depth != b.depth() || leaves != strings.Count(s, ",")+1 {
			t.Errorf("TreeShape(%q) = %d, %d, %v", s, depth, leaves, fine)
		}
	}
}

func TestSwapTreeKnown(t *testing.T) {
	known := [][2]string{
		{"[a,b]", "[b,a]"}, {"[a,a]", "[a,a]"}, {"[aA,bBc]", "[bBc,aA]"}, {"[a,[b,c]]", "[[b,c],a]"},
		{"[[a,b],c]", "[c,[a,b]]"},
		{"[[a,b],[c,d]]", "[[c,d],[a,b]]"}, {"[abc,D]", "[D,abc]"}, {"[[[a,b],c],[dd,e]]", "[[dd,e],[[a,b],c]]"},
		{"[[a,[b,c]],[[d,e],f]]", "[[[d,e],f],[a,[b,c]]]"}, {"[a,[b,[c,[d,e]]]]", "[[b,[c,[d,e]]],a]"},
		{"[" + strings.Repeat("a", 64) + ",abcdefABCDEFa]", "[abcdefABCDEFa," + strings.Repeat("a", 64) + "]"},
		// Too long for a value, but trees that can be swapped.
		{"[" + strings.Repeat("a", 64) + ",b]", "[b," + strings.Repeat("a", 64) + "]"},
	}
	for _, k := range known {
		if swapped, ok := impl.SwapTree(k[0]); !ok || swapped != k[1] {
			t.Errorf("SwapTree(%q) = %q, %v", k[0], swapped, ok)
		}
	}
	for _, s := range []string{"a", "F", "aB", "aA", strings.Repeat("a", 64)} {
		if swapped, ok := impl.SwapTree(s); ok || swapped != "" {
			t.Errorf("SwapTree(%q) = %q, %v", s, swapped, ok)
		}
	}
}

func TestSwapTreeOfManyTrees(t *testing.T) {
	for _, b := range knownBushes() {
		s := b.text()
		swapped, ok := impl.SwapTree(s)
		if len(s) > impl.MaxTree || b.parts == nil {
			if ok || swapped != "" {
				t.Errorf("SwapTree(%q) = %q, %v", s, swapped, ok)
			}
			continue
		}
		if want := both(b.parts[1], b.parts[0]).text(); !ok || swapped != want {
			t.Errorf("SwapTree(%q) = %q, %v", s, swapped, ok)
		}
		if back, ok := impl.SwapTree(swapped); !ok || back != s {
			t.Errorf("SwapTree(%q) = %q, %v", swapped, back, ok)
		}
		value, short := impl.TreeValue(s)
		other, fine := impl.TreeValue(swapped)
		if short != fine {
			t.Errorf("TreeValue of %q and %q: %v and %v", s, swapped, short, fine)
		}
		if short {
			wantWord(t, other, fine, opposite(value), "TreeValue", swapped)
		}
	}
}

func TestFunctionsOfTreesRefuseWhatIsNone(t *testing.T) {
	for _, s := range append(noTrees(), mutants()...) {
		if wantTree(s) {
			continue
		}
		for name, got := range treeOutcomes(s) {
			if !got.failed {
				t.Errorf("%s(%q) = %s", name, s, got.text)
			}
		}
	}
}
