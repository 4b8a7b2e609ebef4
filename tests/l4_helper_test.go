package tests

import (
	"math"
	"regexp"
	"slices"
	"strings"

	"loop.example/g01206/impl"
)

// textOf is the text of a word.
func textOf(w []int) string {
	text := ""
	for _, letter := range w {
		text += string(letterSign(letter))
	}
	return text
}

// bush is a tree made by the tests: a word, or two bushes.
type bush struct {
	word  []int
	parts []bush
}

func leaf(w ...int) bush {
	return bush{word: w}
}

func both(left bush, right bush) bush {
	return bush{parts: []bush{left, right}}
}

func (b bush) text() string {
	if b.parts == nil {
		return textOf(b.word)
	}
	return "[" + b.parts[0].text() + "," + b.parts[1].text() + "]"
}

// value is that of a bush, and whether neither it nor one within is too long.
func (b bush) value() ([]int, bool) {
	if b.parts == nil {
		return wantReduced(b.word), true
	}
	left, ok := b.parts[0].value()
	right, fine := b.parts[1].value()
	product := commutator(left, right)
	return product, ok && fine && len(product) <= impl.MaxWord
}

// rawLength counts each letter as often as commutators around it write it.
func (b bush) rawLength() int {
	if b.parts == nil {
		return len(b.word)
	}
	size := 0
	for _, part := range b.parts {
		size += 2 * part.rawLength()
	}
	return size
}

func (b bush) depth() int {
	if b.parts == nil {
		return 0
	}
	return max(b.parts[0].depth()+1, b.parts[1].depth()+1)
}

// leftComb is a tree of leaves of one letter each, which are added at its end.
func leftComb(depth int, letter func(i int) int) bush {
	b := leaf(letter(0))
	for i := range depth {
		b = both(b, leaf(letter(i+1)))
	}
	return b
}

// rightComb is such a tree whose leaves are added at its start.
func rightComb(depth int, letter func(i int) int) bush {
	b := leaf(letter(0))
	for i := range depth {
		b = both(leaf(letter(i+1)), b)
	}
	return b
}

// sameLetter and otherLetters tell the leaves of combs.
func sameLetter(int) int      { return 4 }
func otherLetters(i int) int  { return 1 + i%6 }
func signedLetters(i int) int { return []int{1, -2, 3, -4, 5, -6}[i%6] }

// sizedBush is a commutator of two words of different nails: its value has 2 * (m + n) letters.
func sizedBush(m int, n int) bush {
	return both(leaf(repeated(1, m)...), leaf(repeated(2, n)...))
}

// variedBushes are trees of all shapes and leaves, of at most MaxTree bytes.
func variedBushes() []bush {
	bushes := []bush{}
	state := 4711
	next := func(n int) int {
		state = (state*1103515245 + 12345) % (1 << 31)
		return state >> 16 % n
	}
	for round := range 3000 {
		parts := []bush{}
		for range 1 + next(6) {
			w := make([]int, 1+next(1+round%9))
			for i := range w {
				w[i] = []int{1, -1, 2, -2, 3, -6}[next(2+round%5)]
			}
			parts = append(parts, leaf(w...))
		}
		for len(parts) > 1 {
			i := next(len(parts) - 1)
			parts = slices.Replace(parts, i, i+2, both(parts[i], parts[i+1]))
		}
		if len(parts[0].text()) <= impl.MaxTree {
			bushes = append(bushes, parts[0])
		}
	}
	return bushes
}

// knownBushes are the trees that tests of all functions share.
func knownBushes() []bush {
	bushes := []bush{
		leaf(1), leaf(-6), leaf(1, -2), leaf(1, -1), leaf(1, 2, -2, 3), leaf(repeated(3, 64)...),
		leaf(slices.Repeat([]int{1, -1}, 32)...), leaf(joined(repeated(2, 33), repeated(-2, 31))...),
		both(leaf(1), leaf(2)), both(leaf(2), leaf(1)), both(leaf(1), leaf(1)), both(leaf(1), leaf(-1)),
		both(leaf(1, -1), leaf(2)), both(leaf(2), leaf(1, -1)), both(leaf(1, 2), leaf(-2, -1)),
		both(leaf(1, 2, -2), leaf(3, -3, 4)), both(leaf(1), both(leaf(2), leaf(3))),
		both(both(leaf(1), leaf(2)), leaf(3)), both(both(leaf(1), leaf(2)), both(leaf(3), leaf(4))),
		both(both(leaf(1), leaf(2)), both(leaf(1), leaf(2))), both(both(leaf(1), leaf(2)), both(leaf(2), leaf(1))),
		both(leaf(1), both(both(leaf(2, -5), leaf(3)), leaf(6, 6, 4))),
		both(leaf(repeated(1, 64)...), leaf(repeated(1, 13)...)),
		both(leaf(repeated(1, 13)...), leaf(repeated(-1, 64)...)),
		both(leaf(slices.Repeat([]int{1, -1}, 32)...), leaf(repeated(2, 13)...)),
		both(both(leaf(slices.Repeat([]int{5, -5}, 32)...), leaf(1)), leaf(2, 3, 4, 5, 6, 1, 2, 3, 4)),
		both(leaf(repeated(1, 38)...), leaf(joined(repeated(1, 38), []int{2})...)),
		// The same word around other ones, most of which is not written.
		both(leaf(joined(repeated(1, 30), []int{2})...), leaf(joined(repeated(1, 30), []int{3})...)),
	}
	for _, sizes := range [][2]int{
		{16, 16}, {1, 31}, {31, 1}, {16, 17}, {17, 16}, {1, 32}, {32, 1}, {32, 32}, {38, 39}, {64, 1}, {1, 64},
	} {
		sized := sizedBush(sizes[0], sizes[1])
		bushes = append(bushes, sized, both(sized, leaf(5)))
	}
	short, long := sizedBush(16, 16), sizedBush(17, 16)
	for _, other := range []bush{leaf(1), leaf(2), leaf(6, -6), leaf(1, 2, 3), both(leaf(1), leaf(1))} {
		bushes = append(bushes, both(short, other), both(long, other), both(other, long))
	}
	// Too long within, although the commutator of a word and itself is empty.
	bushes = append(bushes, both(short, short), both(long, long))
	for depth := range 20 {
		for _, letters := range []func(int) int{sameLetter, otherLetters, signedLetters} {
			bushes = append(bushes, leftComb(depth, letters), rightComb(depth, letters))
		}
	}
	return append(bushes, variedBushes()...)
}

var (
	treeWord  = regexp.MustCompile(`^([a-fA-F]{1,64}|T)$`)
	treeInner = regexp.MustCompile(`\[([a-fA-F]{1,64}|T),([a-fA-F]{1,64}|T)\]`)
)

// wantTree reports whether a text is a tree, by writing T for each commutator from within.
func wantTree(s string) bool {
	if len(s) > 80 || strings.Contains(s, "T") {
		return false
	}
	for treeInner.MatchString(s) {
		s = treeInner.ReplaceAllLiteralString(s, "T")
	}
	return treeWord.MatchString(s)
}

// noTrees are texts that are no trees.
func noTrees() []string {
	letters := func(n int) string { return strings.Repeat("a", n) }
	texts := []string{
		"", " ", "[", "]", ",", "[]", "[,]", "a,", ",a", "a,b", "[a", "a]", "[a]", "[a,", "[a,]", "[,a]", "[a,b",
		"a,b]", "[a,b[", "[a,b]]", "[[a,b]", "[a,b]c", "c[a,b]", "[a,b][c,d]", "[a,b],c", "[a,,b]", "[a,b,c]",
		"[a,b,]", "[,a,b]", "[[a],b]", "[a,[b]]", "[[a,b]]", "[a[b,c]]", "[a[b,c],d]", "[[b,c]a,d]", "[a,b[c,d]]",
		"[a,[b,c]d]", "[[],a]", "[a,[]]", "[a,[,]]", "[[a,b],]", "[,[a,b]]", "[[a,b],[c,d]", "[a,b],[c,d]]", "]a,b[",
		"[[a,b],c", "[a,[b,c]", "[[[[", "]]]]", ",,,,", "[a;b]", "(a,b)", "[a,b}", "{a,b]", "[a, b]", " [a,b]",
		"[a,b] ", "[a,b]\n", "g", "[a,g]", "[G,a]", "[a,-b]", "[1,2]", "-", "[-,a]", "a b", "T", "[T,a]", "`", "@",
		"é", "[a,é]", "a\x00", "\xff", "[\xff,a]", "[a,\xc3]", "[a\x00,b]",
		strings.Repeat("[", 80), strings.Repeat("[", 81), strings.Repeat("[", 100000), strings.Repeat("[a,", 26),
		strings.Repeat("[a,", 26) + "a", strings.Repeat("[a,", 50000), strings.Repeat("]", 100000), letters(100000),
		strings.Repeat("[a,", 50000) + "b" + strings.Repeat("]", 50000),
		// Leaves of one letter more than a word has, in texts that are short enough.
		letters(65), letters(80), "[" + letters(65) + ",b]", "[b," + letters(65) + "]", "[[a,b]," + letters(65) + "]",
		strings.Repeat("aA", 33), "[" + strings.Repeat("fF", 33) + ",b]",
		// Trees, if they were not of one byte more than MaxTree.
		"[" + letters(64) + "," + letters(14) + "]", "[" + letters(14) + "," + letters(64) + "]",
		"[[a,b],[" + letters(36) + "," + letters(34) + "]]",
		rightComb(20, sameLetter).text(), leftComb(20, otherLetters).text(), leftComb(19, sameLetter).text() + "aaaa",
	}
	deep := leftComb(19, otherLetters).text()
	for i := range deep {
		texts = append(texts, deep[:i], deep[:i]+"-"+deep[i+1:], deep[:i]+" "+deep[i:])
	}
	return texts
}

// differentLists are all lists of at least one nail, all different.
func differentLists() [][]int {
	lists := [][]int{{}}
	for start := 0; start < len(lists); start++ {
		for nail := 1; nail <= 6; nail++ {
			if !slices.Contains(lists[start], nail) {
				lists = append(lists, joined(lists[start], []int{nail}))
			}
		}
	}
	return lists[1:]
}

// noLists are lists that have no nail, a nail twice, or a number that is none.
func noLists() [][]int {
	lists := [][]int{
		nil, {}, {1, 1}, {6, 6}, {1, 2, 1}, {1, 2, 2}, {2, 2, 1}, {3, 1, 2, 4, 3}, {1, 2, 3, 4, 5, 6, 1},
		{1, 2, 3, 4, 5, 6, 6}, {1, -1}, {-1, 1}, {2, -2}, {1, 0, 2}, {7, 8}, {6, 7}, {0, 1}, {5, 6, 7}, {1, 257},
		{math.MaxInt, 1}, {1, math.MinInt}, {1, 2, 3, 4, 5, 6, 7}, {2, 3, 4, 5, 6, 7}, {0, 1, 2, 3, 4, 5},
		repeated(1, 64), repeated(3, 100000),
	}
	for _, bad := range noNails() {
		lists = append(lists, []int{bad}, []int{bad, 1}, []int{1, bad}, []int{2, 1, bad, 4})
		lists = append(lists, []int{bad, bad}, []int{6, 5, 4, 3, 2, bad})
	}
	return lists
}

// rawCommutator is two words and their inverses, not reduced.
func rawCommutator(u []int, v []int) []int {
	return joined(u, v, opposite(u), opposite(v))
}

// wantLeftWord and wantBalancedWord are those words, of any length, as they stand.
func wantLeftWord(nails []int) []int {
	last := len(nails) - 1
	if last == 0 {
		return joined(nails)
	}
	return rawCommutator(wantLeftWord(nails[:last]), nails[last:])
}

func wantBalancedWord(nails []int) []int {
	if len(nails) == 1 {
		return joined(nails)
	}
	half := len(nails)/2 + len(nails)%2
	return rawCommutator(wantBalancedWord(nails[:half]), wantBalancedWord(nails[half:]))
}

// wicks is what WicksParts tells of a word.
type wicks struct {
	a, b, c []int
	k       int
}

// wantWicks tries all turns and parts, in order, by the document's definition.
func wantWicks(w []int) (wicks, bool) {
	core := wantReduced(w)
	for len(core) > 0 && !isCyclic(core) {
		core = core[1 : len(core)-1]
	}
	for k := range core {
		turn := joined(core[k:], core[:k])
		for i := range len(turn)/2 + 1 {
			for j := i; j <= len(turn)/2; j++ {
				a, b, c := turn[:i], turn[i:j], turn[j:len(turn)/2]
				empty := 0
				for _, part := range [][]int{a, b, c} {
					if len(part) == 0 {
						empty++
					}
				}
				if empty <= 1 && slices.Equal(turn, joined(a, b, c, opposite(a), opposite(b), opposite(c))) {
					return wicks{a, b, c, k}, true
				}
			}
		}
	}
	return wicks{}, false
}

// wicksWords are words of Wicks' form and others: many short words, which have few commutators
// among them, commutators of words, and words that three words make, turned and conjugate.
func wicksWords() [][]int {
	words := append(shortWords(2, 6), shortWords(3, 3)...)
	for _, u := range shortWords(3, 2) {
		for _, v := range shortWords(2, 2) {
			words = append(words, commutator(u, v), joined(commutator(u, v), []int{1}), rawCommutator(u, v))
		}
	}
	for _, w := range variedWords() {
		half := w[:len(w)/2]
		i, j := len(half)/5, len(half)/2
		whole := joined(half, opposite(half[:i]), opposite(half[i:j]), opposite(half[j:]))
		words = append(words, w, whole, joined(whole[j:], whole[:j]))
		if len(whole) <= impl.MaxWord-4 {
			words = append(words, joined([]int{6, -2}, whole, []int{2, -6}))
		}
	}
	return words
}

// commutatorCalls are the functions of one word or of one list of nails of chapter 4.
func commutatorCalls() []wordCall {
	return append(nailListCalls(), wordCall{"WicksParts", func(u, _ []int) outcome {
		a, b, c, k, ok := impl.WicksParts(u)
		return outcomeOf(a, b, c, k, ok)
	}})
}

func nailListCalls() []wordCall {
	return []wordCall{
		{"LeftWord", func(u, _ []int) outcome { a, ok := impl.LeftWord(u); return outcomeOf(a, ok) }},
		{"BalancedWord", func(u, _ []int) outcome { a, ok := impl.BalancedWord(u); return outcomeOf(a, ok) }},
		{"BalancedTree", func(u, _ []int) outcome { a, ok := impl.BalancedTree(u); return outcomeOf(a, ok) }},
	}
}

func commutatorOfCall() wordCall {
	return wordCall{"CommutatorOf", func(u, v []int) outcome {
		a,
			ok := impl.CommutatorOf(u, v)
		return outcomeOf(a, ok)
	}}
}

// treeOutcomes are the answers of all functions of a tree to a text.
func treeOutcomes(s string) map[string]outcome {
	value, hasValue := impl.TreeValue(s)
	length, hasLength := impl.TreeLength(s)
	depth, leaves, hasShape := impl.TreeShape(s)
	swapped, hasSwapped := impl.SwapTree(s)
	return map[string]outcome{
		"IsTree":     outcomeOf(impl.IsTree(s)),
		"TreeValue":  outcomeOf(value, hasValue),
		"TreeLength": outcomeOf(length, hasLength),
		"TreeShape":  outcomeOf(depth, leaves, hasShape),
		"SwapTree":   outcomeOf(swapped, hasSwapped),
	}
}
