package tests

import (
	"math/big"
	"slices"
	"testing"

	"loop.example/g01206/impl"
)

// checkRanked checks that a word has a rank, and that the rank has the word.
func checkRanked(t *testing.T, w []int, n int, rank int) {
	t.Helper()
	got, ok := impl.RankWord(w, n)
	checkNumber(t, got, ok, rank, "RankWord", w, n)
	at, ok := impl.WordAt(n, rank)
	wantWord(t, at, ok, w, "WordAt", n, rank)
}

func TestRanksKnown(t *testing.T) {
	known := []struct {
		w       string
		n, rank int
	}{
		{"", 1, 0}, {"", 2, 0}, {"", 6, 0}, {"a", 1, 1}, {"A", 1, 2}, {"aa", 1, 3}, {"AA", 1, 4}, {"aaa", 1, 5},
		{much("a", 64), 1, 127}, {much("A", 64), 1, 128}, {much("A", 63), 1, 126},
		{"a", 2, 1}, {"A", 2, 2}, {"b", 2, 3}, {"B", 2, 4}, {"aa", 2, 5}, {"ab", 2, 6}, {"aB", 2, 7}, {"AA", 2, 8}, {"Ab", 2, 9},
		{"AB", 2, 10}, {"ba", 2, 11}, {"bA", 2, 12}, {"bb", 2, 13}, {"Ba", 2, 14}, {"BA", 2, 15}, {"BB", 2, 16}, {"aaa", 2, 17},
		{"BBB", 2, 52}, {"aaaa", 2, 53}, {"a", 6, 1}, {"f", 6, 11}, {"F", 6, 12}, {"aa", 6, 13}, {"ab", 6, 14}, {"aF", 6, 23},
		{"AA", 6, 24}, {"FF", 6, 144}, {"aaa", 6, 145}, {"c", 3, 5}, {"cA", 3, 28},
	}
	for _, k := range known {
		checkRanked(t, wordOf(k.w), k.n, k.rank)
	}
}

// rankedSizes are, for each number of nails, the length up to which all words are looked at.
func rankedSizes() map[int]int {
	return map[int]int{1: 10, 2: 7, 3: 5, 4: 4, 5: 3, 6: 3}
}

func TestRanksOfAllShortWords(t *testing.T) {
	for n, size := range rankedSizes() {
		words := reducedWords(n, size)
		for rank, w := range words {
			checkRanked(t, w, n, rank)
			if rank+1 < len(words) {
				next, ok := impl.NextWord(w, n)
				wantWord(t, next, ok, words[rank+1], "NextWord", w, n)
			}
		}
	}
}

func TestRanksOfOneNail(t *testing.T) {
	rank := 0
	for size := range impl.MaxWord + 1 {
		for _, letter := range []int{1, -1} {
			if size == 0 && letter < 0 {
				continue
			}
			checkRanked(t, repeated(letter, size), 1, rank)
			rank++
		}
	}
	if rank != 129 {
		t.Fatal("words of one nail", rank)
	}
	for _, beyond := range []int{129, 130, 131, 132, 1000, 1 << 31, 1 << 32, impl.MaxRank - 1, impl.MaxRank} {
		got, ok := impl.WordAt(1, beyond)
		wantNone(t, got, ok, "WordAt", 1, beyond)
	}
}

// checkRank checks what is told of the rank of a word, which may be too great.
func checkRank(t *testing.T, w []int, n int) {
	t.Helper()
	want := wantRank(w, n)
	if !isRanked(want) {
		got, ok := impl.RankWord(w, n)
		checkNoNumber(t, got, ok, "RankWord", w, n)
		return
	}
	checkRanked(t, w, n, int(want.Int64()))
}

func TestRanksOfFirstAndLastWords(t *testing.T) {
	for n := 1; n <= 6; n++ {
		for length := range impl.MaxWord + 1 {
			first, last := repeated(1, length), repeated(-n, length)
			if wantRank(first, n).Cmp(wantShorter(n, length)) != 0 {
				t.Fatal("the first word", n, length)
			}
			behind := wantShorter(n, length+1)
			if wantRank(last, n).Cmp(behind.Sub(behind, big.NewInt(1))) != 0 {
				t.Fatal("the last word", n, length)
			}
			checkRank(t, first, n)
			checkRank(t, last, n)
		}
	}
}

func TestRanksOfLongWords(t *testing.T) {
	for n := 1; n <= 6; n++ {
		for _, w := range longWords(n) {
			for nails := n; nails <= 6; nails++ {
				checkRank(t, w, nails)
			}
		}
	}
}

func TestTheGreatestRanks(t *testing.T) {
	known := []struct {
		n                int
		before, w, after string
	}{
		{2, "AbABABAAbABabAABAABAbAAAb", "AbABABAAbABabAABAABAbAAAB", "AbABABAAbABabAABAABAbAAba"},
		{3, "CabAcbbbbbbbbbbbb", "CabAcbbbbbbbbbbbc", "CabAcbbbbbbbbbbbC"},
		{4, "aaDDbdcABBDBCDC", "aaDDbdcABBDBCDD", "aaDDbdcABBDBdaa"},
		{5, "bbdcEbEAdaBae", "bbdcEbEAdaBaE", "bbdcEbEAdaBAA"},
		{6, "bcBfEdEaceDf", "bcBfEdEaceDF", "bcBfEdEaceea"},
	}
	for _, k := range known {
		w, after := wordOf(k.w), wordOf(k.after)
		checkRanked(t, w, k.n, impl.MaxRank)
		checkRanked(t, wordOf(k.before), k.n, impl.MaxRank-1)
		// The next one is told, but not its rank.
		next, ok := impl.NextWord(w, k.n)
		wantWord(t, next, ok, after, "NextWord", k.w, k.n)
		got, ok := impl.RankWord(after, k.n)
		checkNoNumber(t, got, ok, "RankWord", k.after, k.n)
		// Nor are those of longer words, whatever they begin with.
		for length := len(w) + 1; length <= impl.MaxWord; length++ {
			for _, long := range [][]int{repeated(1, length), repeated(-k.n, length), joined(w, repeated(w[len(w)-1], length-len(w)))} {
				got, ok = impl.RankWord(long, k.n)
				checkNoNumber(t, got, ok, "RankWord", long, k.n)
			}
		}
	}
}

// variedRanks are ranks of all sizes.
func variedRanks() []int {
	ranks := []int{}
	for size := 1; size <= impl.MaxRank; size *= 7 {
		for factor := 1; factor < 7; factor++ {
			ranks = append(ranks, min(size*factor-1, impl.MaxRank), min(size*factor+size/3, impl.MaxRank))
		}
	}
	return ranks
}

func TestWordsAtVariedRanks(t *testing.T) {
	for n := 2; n <= 6; n++ {
		for _, rank := range variedRanks() {
			w, ok := impl.WordAt(n, rank)
			wantWord(t, w, ok, wantAt(n, big.NewInt(int64(rank))), "WordAt", n, rank)
			again, ok := impl.RankWord(w, n)
			checkNumber(t, again, ok, rank, "RankWord", w, n)
		}
	}
}

// The ranks of words that are beside each other are so too.
func TestNextWordHasTheNextRank(t *testing.T) {
	for n := 1; n <= 6; n++ {
		for _, rank := range variedRanks() {
			w, fine := impl.WordAt(n, rank)
			_, last := impl.WordAt(n, rank+1)
			if !fine || !last {
				continue
			}
			next, ok := impl.NextWord(w, n)
			got, told := impl.RankWord(next, n)
			if !ok || !told || got != rank+1 {
				t.Errorf("NextWord(%v, %d) = %v, %v with the rank %d, %v", w, n, next, ok, got, told)
			}
			if less, ok := impl.LessWord(w, next); !ok || !less {
				t.Errorf("NextWord(%v, %d) = %v comes before it", w, n, next)
			}
		}
	}
}

func TestNextWordKnown(t *testing.T) {
	known := []struct {
		w    string
		n    int
		want string
	}{
		{"", 1, "a"}, {"", 6, "a"}, {"a", 1, "A"}, {"A", 1, "aa"}, {"aa", 1, "AA"}, {"AA", 1, "aaa"}, {much("a", 64), 1, much("A", 64)},
		{"A", 2, "b"}, {"B", 2, "aa"}, {"B", 3, "c"}, {"F", 6, "aa"},
		// In the last letter alone.
		{"aa", 2, "ab"}, {"ab", 2, "aB"}, {"AA", 2, "Ab"}, {"ba", 2, "bA"}, {"bA", 2, "bb"}, {"BA", 2, "BB"}, {"Ba", 2, "BA"},
		{"abcdef", 6, "abcdeF"}, {much("a", 64), 2, much("a", 63) + "b"}, {"abC", 4, "abd"},
		// From the first letter on.
		{"aB", 2, "AA"}, {"AB", 2, "ba"}, {"bb", 2, "Ba"}, {"aBB", 2, "AAA"}, {"ABB", 2, "baa"}, {"bbb", 2, "Baa"},
		{"aFFF", 6, "AAAA"}, {"EFF", 6, "faa"}, {"fff", 6, "Faa"}, {"a" + much("B", 63), 2, much("A", 64)},
		{"A" + much("B", 63), 2, "b" + much("a", 63)}, {much("b", 64), 2, "B" + much("a", 63)},
		// From one in between on, with a letter that cannot be behind the one before it.
		{"aaB", 2, "aba"}, {"abb", 2, "aBa"}, {"abbb", 2, "aBaa"}, {"baBB", 2, "bAAA"}, {"BAbb", 2, "BABa"}, {"BABB", 2, "BBaa"}, {"cBC", 3, "cca"},
		{"Abb", 2, "ABa"},
		// The last words of a length.
		{"BB", 2, "aaa"}, {"CCC", 3, "aaaa"}, {much("B", 63), 2, much("a", 64)}, {much("F", 63), 6, much("a", 64)},
		{much("A", 63), 1, much("a", 64)}, {much("B", 64), 3, much("B", 63) + "c"},
	}
	for _, k := range known {
		got, ok := impl.NextWord(wordOf(k.w), k.n)
		wantWord(t, got, ok, wordOf(k.want), "NextWord", k.w, k.n)
	}
}

func TestNextWordOfLongWords(t *testing.T) {
	for n := 1; n <= 6; n++ {
		for _, w := range longWords(n) {
			checkNext(t, w, n)
			// Those of which the last letters are the greatest ones that can be there.
			for back := range min(len(w), 5) {
				begun := slices.Clone(w[:len(w)-back])
				for len(begun) < len(w) {
					letters := choices(begun, n)
					begun = append(begun, letters[len(letters)-1])
				}
				checkNext(t, begun, n)
			}
		}
	}
}

// checkNext checks the word behind a word, which may be too long.
func checkNext(t *testing.T, w []int, n int) {
	t.Helper()
	got, ok := impl.NextWord(w, n)
	want := wantNext(w, n)
	if len(want) > impl.MaxWord {
		wantNone(t, got, ok, "NextWord", w, n)
		return
	}
	wantWord(t, got, ok, want, "NextWord", w, n)
}

func TestNothingIsBehindTheLastWord(t *testing.T) {
	for n := 1; n <= 6; n++ {
		last := repeated(-n, impl.MaxWord)
		got, ok := impl.NextWord(last, n)
		wantNone(t, got, ok, "NextWord", last, n)
		before := joined(last[1:], []int{1 - n})
		if n == 1 {
			before = repeated(1, impl.MaxWord)
		}
		got, ok = impl.NextWord(before, n)
		wantWord(t, got, ok, last, "NextWord", before, n)
	}
}

// noRanks are numbers that are no ranks, or are not told.
func noRanks() []int {
	numbers := append(noFrom(0, impl.MaxRank), -1, impl.MaxRank+1, 2*impl.MaxRank, -impl.MaxRank)
	return slices.DeleteFunc(numbers, func(rank int) bool { return rank >= 0 && rank <= impl.MaxRank })
}

func TestRanksRefuseOtherNumbers(t *testing.T) {
	for n := 1; n <= 6; n++ {
		for _, rank := range noRanks() {
			got, ok := impl.WordAt(n, rank)
			wantNone(t, got, ok, "WordAt", n, rank)
		}
	}
	for _, n := range append(noFrom(1, 6), 0, 7, -1) {
		for _, rank := range append(noRanks(), 0, 1, 2, 100, impl.MaxRank) {
			got, ok := impl.WordAt(n, rank)
			wantNone(t, got, ok, "WordAt", n, rank)
		}
		for _, w := range [][]int{nil, {1}, {-1}, {6}, {1, 2, -1}, repeated(1, impl.MaxWord)} {
			refuse(t, w, rankWordCall(n), nextWordCall(n))
		}
	}
}

// All reduced words of the nails 1..n have a next one or a rank, others have none.
func TestRanksTakeReducedWordsOfTheirNailsAlone(t *testing.T) {
	for _, w := range append(shortWords(3, 3), variedWords()...) {
		for n := 1; n <= 6; n++ {
			if slices.Equal(wantReduced(w), w) && nailsOf(w) < subsetsOf(n) {
				checkRank(t, w, n)
				checkNext(t, w, n)
				continue
			}
			refuse(t, w, rankWordCall(n), nextWordCall(n))
		}
	}
}
