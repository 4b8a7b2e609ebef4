package tests

import (
	"slices"
	"strings"
	"testing"

	"loop.example/g01206/impl"
)

// keyedCase is two words and what OrWord or AndWord tells of them, as texts.
type keyedCase struct {
	u, v, want string
	k          int
	ok         bool
}

func (c keyedCase) wanted() keyed {
	return keyed{wordOf(c.want), c.k, c.ok}
}

// much is a text, count times.
func much(text string, count int) string {
	return strings.Repeat(text, count)
}

// oneOfEach is a word that hangs by nothing but these three pairs of nails.
const oneOfEach = "abABcdCDefEF"

func orCases() []keyedCase {
	return []keyedCase{
		{"", "", "", 0, true}, {"", "a", "", 0, true}, {"a", "", "", 0, true}, {"bB", "a", "", 0, true},
		{"abc", "dD", "", 0, true}, {"", much("a", 64), "", 0, true}, {much("f", 64), "", "", 0, true},
		{"a", "b", "abAB", 0, true}, {"b", "a", "baBA", 0, true}, {"a", "B", "aBAb", 0, true}, {"F", "e", "FefE", 0, true},
		{"aBb", "cCb", "abAB", 0, true}, {"ab", "c", "abcBAC", 0, true}, {"c", "ab", "cabCBA", 0, true},
		{"ab", "cd", "abcdBADC", 0, true}, {"abAB", "c", "abABcbaBAC", 0, true}, {"c", "abAB", "cabABCbaBA", 0, true},
		{"ab", "abAB", "ababABBAbaBA", 0, true}, {"abAB", "aabABA", "abABaabABAbaaBAA", 0, true},
		// Words that commute, and the same word twice: the key has a nail of each pair by which they hang.
		{"abAB", "abAB", "abABaabABAbaaBAA", 1, true}, {"abAB", "baBA", "abABabaBAAbaBabABA", 1, true},
		{"baBA", "abAB", "baBabAABabaBAA", 1, true}, {"bcBC", "bcBC", "bcBCbbcBCBcbbCBB", 3, true},
		{"efEF", "efEF", "efEFeefEFEfeeFEE", 9, true},
		{"abABcdCD", "abABcdCD", "abABcdCDacabABcdCDCAdcDCbaBcdcDCbaBACA", 16, true},
		{oneOfEach, oneOfEach, "", 0, false},
		// A single nail by which both hang: whatever is around it, turns around it commute.
		{"a", "a", "", 0, false}, {"a", "A", "", 0, false}, {"a", "aaa", "", 0, false}, {"ab", "ab", "", 0, false},
		{"ab", "ba", "", 0, false}, {"ab", "BA", "", 0, false}, {"ab", "ac", "", 0, false}, {"ab", "bc", "", 0, false},
		{"a", "baB", "", 0, false}, {"a", "bab", "", 0, false}, {"abcdef", "abcdef", "", 0, false},
		{much("a", 64), much("a", 64), "", 0, false}, {"a", much("a", 64), "", 0, false},
		// Of just MaxWord letters, and of more with each key.
		{much("a", 16), much("b", 16), much("a", 16) + much("b", 16) + much("A", 16) + much("B", 16), 0, true},
		{"a", much("b", 31), "a" + much("b", 31) + "A" + much("B", 31), 0, true},
		{much("b", 31), "f", much("b", 31) + "f" + much("B", 31) + "F", 0, true},
		{much("a", 16), much("b", 17), "", 0, false}, {much("a", 17), much("b", 16), "", 0, false},
		{"a", much("b", 32), "", 0, false}, {much("b", 32), "a", "", 0, false}, {much("a", 64), "b", "", 0, false},
		{"a", much("b", 64), "", 0, false}, {much("a", 64), much("b", 64), "", 0, false},
		// Conjugates of 66 and of 68 letters.
		{"abAB", "c" + much("abAB", 15) + "abA", "abAcbaBACB", 3, true},
		{"abcACB", much("abcACB", 10) + "abcA", "abcAbcaCBACB", 38, true},
	}
}

func andCases() []keyedCase {
	return []keyedCase{
		{"", "", "", 0, true}, {"", "a", "a", 0, true}, {"a", "", "a", 0, true}, {"aA", "abBc", "ac", 0, true},
		{"abBc", "dD", "ac", 0, true}, {"", much("a", 64), much("a", 64), 0, true}, {much("F", 64), "", much("F", 64), 0, true},
		{"a", "b", "ab", 0, true}, {"b", "a", "ba", 0, true}, {"a", "B", "aB", 0, true}, {"a", "a", "aa", 0, true},
		{"abB", "Ccb", "ab", 0, true}, {"ab", "bc", "abbc", 0, true}, {"abAB", "c", "abABc", 0, true},
		{"c", "abAB", "cabAB", 0, true}, {"abAB", "abAB", "abABabAB", 0, true}, {"abAB", "cdCD", "abABcdCD", 0, true},
		{"aab", "BA", "", 0, false}, {much("a", 64), much("A", 63), "a", 0, true},
		// Nothing is left of them as they stand, or not enough.
		{"abAB", "baBA", "abABabaBAA", 1, true}, {"baBA", "abAB", "baBabABA", 1, true},
		{"cdCD", "dcDC", "cdCDcdcDCC", 5, true}, {"abAB", "bcdefaFEDCBA", "abABabcdefaFEDCBAA", 1, true},
		// A nail by which both hang, around which they turn as often, one each way.
		{"a", "A", "", 0, false}, {"ab", "BA", "", 0, false}, {"ab", "Bc", "", 0, false}, {"ab", "Ab", "", 0, false},
		{"aa", "AA", "", 0, false}, {"a", "bAB", "", 0, false}, {much("a", 64), much("A", 64), "", 0, false},
		// Of just MaxWord letters, and of more with each key.
		{much("a", 32), much("b", 32), much("a", 32) + much("b", 32), 0, true},
		{much("a", 63), "b", much("a", 63) + "b", 0, true}, {"b", much("a", 63), "b" + much("a", 63), 0, true},
		{much("a", 32), much("b", 33), "", 0, false}, {much("a", 33), much("b", 32), "", 0, false},
		{much("a", 64), "b", "", 0, false}, {"b", much("a", 64), "", 0, false}, {much("a", 64), "a", "", 0, false},
		{much("a", 64), much("b", 64), "", 0, false}, {much("a", 64), much("a", 64), "", 0, false},
		// Conjugates of 66 and of 68 letters.
		{much("A", 63) + "B", much("a", 64), "aB", 3, true}, {much("A", 62) + "CB", much("a", 64), "aaCB", 38, true},
	}
}

func TestOrWordKnown(t *testing.T) {
	for _, c := range orCases() {
		got, k, ok := impl.OrWord(wordOf(c.u), wordOf(c.v))
		checkKeyed(t, keyed{got, k, ok}, c.wanted(), "OrWord", c.u, c.v)
	}
}

func TestAndWordKnown(t *testing.T) {
	for _, c := range andCases() {
		got, k, ok := impl.AndWord(wordOf(c.u), wordOf(c.v))
		checkKeyed(t, keyed{got, k, ok}, c.wanted(), "AndWord", c.u, c.v)
	}
}

// joinWords are the words of which tests make others: short ones, those that hang by few nails of
// several, conjugates and powers.
func joinWords() [][]int {
	words := append(shortWords(2, 2), []int{1, 2, -2}, []int{4, 3, -4}, repeated(1, 30), repeated(-2, 33))
	for _, c := range edgeCases() {
		words = append(words, c.w)
	}
	for _, text := range []string{"abAB", "baBA", "aabABA", "abABabAB", "abABcdCD", oneOfEach, "acACbdBD"} {
		words = append(words, wordOf(text))
	}
	for i, w := range variedWords() {
		if len(w) < 14 && i%3 == 0 {
			words = append(words, w)
		}
	}
	return words
}

func TestWordsMadeOfManyPairs(t *testing.T) {
	words := joinWords()
	for i, u := range words {
		// Not all pairs, which would take long, but each word with words all over the list.
		for j := i % 4; j < len(words); j += 4 {
			checkJoined(t, u, words[j])
		}
	}
}

// Of the words that serve, that of the first key is told: none serves with a key before it.
func TestFirstKeyIsTold(t *testing.T) {
	for _, c := range orCases() {
		checkJoined(t, wordOf(c.u), wordOf(c.v))
	}
	for _, c := range andCases() {
		checkJoined(t, wordOf(c.u), wordOf(c.v))
	}
}

// A word that is told is made with the key whose number is told.
func TestNumbersAreThoseOfKeys(t *testing.T) {
	for _, u := range joinWords() {
		for _, v := range [][]int{{2}, {1, 2, -1, -2}, {2, 1, -2, -1}, wordOf("abABcdCD"), twoOfThree(1, 2, 3)} {
			or, k, ok := impl.OrWord(u, v)
			key, _ := impl.KeyAt(k)
			if ok && !slices.Equal(or, commutator(u, joined(key, v, opposite(key)))) {
				t.Errorf("OrWord(%v, %v) = %v, %d", u, v, or, k)
			}
			and, k, ok := impl.AndWord(u, v)
			key, _ = impl.KeyAt(k)
			if ok && !slices.Equal(and, wantReduced(joined(u, key, v, opposite(key)))) {
				t.Errorf("AndWord(%v, %v) = %v, %d", u, v, and, k)
			}
		}
	}
}

// What words are reduced to is all that counts.
func TestWordsMadeOfWordsThatAreNotReduced(t *testing.T) {
	for _, pair := range [][2]string{{"a", "b"}, {"abAB", "abAB"}, {"abAB", "baBA"}, {"ab", "cd"}, {"a", "A"}, {"", "a"}} {
		or, k, ok := impl.OrWord(wordOf(pair[0]), wordOf(pair[1]))
		and, m, fine := impl.AndWord(wordOf(pair[0]), wordOf(pair[1]))
		for _, more := range []string{"bB", "Ff", "abBA", much("cC", 30)} {
			for _, other := range []string{"", "eE", much("dD", 30)} {
				u, v := wordOf(more+pair[0]+other), wordOf(other+pair[1]+more)
				got, n, is := impl.OrWord(u, v)
				wantSameKeyed(t, keyed{got, n, is}, keyed{or, k, ok}, u, v)
				got, n, is = impl.AndWord(u, v)
				wantSameKeyed(t, keyed{got, n, is}, keyed{and, m, fine}, u, v)
			}
		}
	}
}

// wantSameKeyed checks an answer for words, if both are valid.
func wantSameKeyed(t *testing.T, got keyed, want keyed, u []int, v []int) {
	t.Helper()
	if !impl.IsWord(u) || !impl.IsWord(v) {
		want = noneKeyed()
	}
	checkKeyed(t, got, want, u, v)
}
