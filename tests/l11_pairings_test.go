package tests

import (
	"math"
	"slices"
	"testing"

	"loop.example/g01206/impl"
)

func TestIsPairingKnown(t *testing.T) {
	for _, c := range []struct {
		text string
		list []int
		want bool
	}{
		// No partners at all, also where letters are opposites beside each other.
		{"", nil, true}, {"", []int{}, true}, {"a", []int{-1}, true}, {"aA", []int{-1, -1}, true}, {"abBA", []int{-1, -1, -1, -1}, true}, {"abAB", []int{-1, -1, -1, -1}, true},
		// Full ones, side by side and one within the other.
		{"aA", []int{1, 0}, true}, {"abBA", []int{3, 2, 1, 0}, true}, {"aAbB", []int{1, 0, 3, 2}, true}, {"aAaA", []int{1, 0, 3, 2}, true}, {"aAaA", []int{3, 2, 1, 0}, true},
		{"abBcCA", []int{5, 2, 1, 4, 3, 0}, true}, {"abBAcC", []int{3, 2, 1, 0, 5, 4}, true},
		// Some letters have partners.
		{"abBA", []int{-1, 2, 1, -1}, true}, {"aAbB", []int{1, 0, -1, -1}, true}, {"aAbB", []int{-1, -1, 3, 2}, true}, {"aAa", []int{1, 0, -1}, true}, {"aAa", []int{-1, 2, 1}, true},
		{"cabBAc", []int{-1, 4, 3, 2, 1, -1}, true}, {"aAcbB", []int{1, 0, -1, 4, 3}, true},
		// Partners that are no opposites.
		{"aa", []int{1, 0}, false}, {"ab", []int{1, 0}, false}, {"aB", []int{1, 0}, false}, {"AA", []int{1, 0}, false}, {"aAbb", []int{1, 0, 3, 2}, false}, {"aAbB", []int{3, 2, 1, 0}, false}, {"abBa", []int{3, 2, 1, 0}, false},
		// Partners that are not each other's.
		{"aA", []int{1, -1}, false}, {"aA", []int{-1, 0}, false}, {"aAa", []int{1, 2, 1}, false}, {"aAa", []int{1, 0, 1}, false}, {"AaA", []int{1, 2, 1}, false}, {"aAaA", []int{1, 2, 3, 0}, false}, {"aAaA", []int{3, 0, 1, 2}, false},
		{"aAaA", []int{1, 0, 1, 0}, false}, {"aAaA", []int{1, 0, 3, 0}, false}, {"aAaA", []int{1, 0, 1, 2}, false}, {"aAaA", []int{1, 0, 3, -1}, false}, {"aAaA", []int{-1, 0, 3, 2}, false},
		// A letter is its own partner.
		{"a", []int{0}, false}, {"aA", []int{0, 1}, false}, {"aA", []int{0, 0}, false}, {"aA", []int{1, 1}, false}, {"aAb", []int{1, 0, 2}, false}, {"baA", []int{0, 2, 1}, false}, {"abA", []int{2, 1, 0}, false},
		// Pairs that cross.
		{"abAB", []int{2, 3, 0, 1}, false}, {"aaAA", []int{2, 3, 0, 1}, false}, {"aaAA", []int{3, 2, 1, 0}, true}, {"abcABC", []int{3, 4, 5, 0, 1, 2}, false}, {"caAbCB", []int{4, 2, 1, 5, 0, 3}, false}, {"aabABA", []int{3, 5, 4, 0, 2, 1}, false},
		// A letter without a partner between two partners.
		{"abA", []int{2, -1, 0}, false}, {"abBA", []int{3, -1, -1, 0}, false}, {"aAaA", []int{3, -1, -1, 0}, false}, {"abBcA", []int{4, 2, 1, -1, 0}, false}, {"acbBA", []int{4, -1, 3, 2, 0}, false}, {"babBAB", []int{5, -1, 3, 2, -1, 0}, false},
		// Other numbers, and other lengths.
		{"a", []int{-2}, false}, {"a", []int{1}, false}, {"a", []int{2}, false}, {"aA", []int{1, -2}, false}, {"aA", []int{-2, -2}, false}, {"aA", []int{2, 0}, false}, {"aA", []int{1, 2}, false}, {"aA", []int{2, 1}, false},
		{"aA", []int{math.MaxInt, 0}, false}, {"aA", []int{1, math.MinInt}, false}, {"aA", []int{math.MinInt, math.MaxInt}, false}, {"aA", []int{1<<32 + 1, 1 << 32}, false}, {"aA", []int{-1, -3}, false}, {"abBA", []int{3, 2, 1, -4}, false},
		{"", []int{-1}, false}, {"", []int{0}, false}, {"a", nil, false}, {"a", []int{-1, -1}, false}, {"aA", []int{1}, false}, {"aA", []int{-1}, false}, {"aA", []int{1, 0, -1}, false}, {"aA", nil, false}, {"aAbB", []int{1, 0}, false}, {"aA", []int{1, 0, 3, 2}, false},
	} {
		checkPairing(t, wordOf(c.text), c.list, c.want)
	}
}

// All lists of entries from -2 to the length of a word, for all short words, and for some of six
// letters those from -1 on.
func TestIsPairingOfAllShortLists(t *testing.T) {
	pairings := 0
	for _, w := range shortWords(2, 4) {
		for _, list := range ofLength(listsOf(numbersTo(-2, len(w)), len(w)), len(w)) {
			want := wantPairing(w, list)
			checkPairing(t, w, list, want)
			pairings += one(want)
		}
	}
	lists := ofLength(listsOf(numbersTo(-1, 5), 6), 6)
	for _, text := range []string{"aAaAaA", "abABBA", "aaAAaA"} {
		w := wordOf(text)
		full := 0
		for _, list := range lists {
			want := wantPairing(w, list)
			checkPairing(t, w, list, want)
			pairings += one(want)
			full += one(want && !slices.Contains(list, -1))
		}
		count, ok := impl.CountPairings(w)
		checkNumber(t, count, ok, full, "CountPairings", text)
	}
	if pairings < 500 {
		t.Errorf("%d pairings", pairings)
	}
}

func TestPairingOfKnown(t *testing.T) {
	for _, c := range proofCases() {
		w := wordOf(c.text)
		got, ok := impl.PairingOf(w)
		wantWord(t, got, ok, c.pairing, "PairingOf", c.text)
		if c.proofs > 0 {
			byProof, ok := impl.PairingOfProof(w, c.first)
			wantWord(t, byProof, ok, c.pairing, "PairingOfProof", c.text)
		}
	}
	w := joined([]int{2}, repeated(1, 31), repeated(-1, 32))
	got, ok := impl.PairingOf(w)
	want := joined([]int{-1}, reversed(numbersTo(1, 62)), []int{-1})
	wantWord(t, got, ok, want, "PairingOf", w)
}

// It is a pairing, and leaves what the word is reduced to; it is full where this is nothing.
func TestPairingOfManyWords(t *testing.T) {
	full, empty, others := 0, 0, 0
	for _, w := range proofWords() {
		_, want := readForward(w)
		got, ok := impl.PairingOf(w)
		wantWord(t, got, ok, want, "PairingOf", w)
		checkPairing(t, w, got, true)
		left := leftBy(w, got)
		if !wantPairing(w, got) || !slices.Equal(left, wantReduced(w)) {
			t.Errorf("PairingOf(%v) = %v leaves %v", w, got, left)
		}
		switch len(left) {
		case 0:
			full++
		case len(w):
			empty++
		default:
			others++
		}
	}
	if full < 300 || empty < 100 || others < 500 {
		t.Error(full, "full,", empty, "without partners,", others, "others")
	}
}

// changedPairings are pairings changed a little, and those with a pair taken out.
func changedPairings(list []int) [][]int {
	lists := changedLists(list)
	for i, partner := range list {
		if i < partner {
			less := joined(list)
			less[i], less[partner] = -1, -1
			lists = append(lists, less)
		}
		// Partners exchanged with those of the next letter.
		if i > 0 && partner >= 0 && list[i-1] >= 0 {
			turned := joined(list)
			turned[i-1], turned[i] = partner, list[i-1]
			turned[partner], turned[list[i-1]] = i-1, i
			lists = append(lists, turned)
		}
	}
	return lists
}

// Lists that differ a little from pairings, also of long words.
func TestIsPairingOfChangedPairings(t *testing.T) {
	pairings, others := 0, 0
	for k, w := range proofWords() {
		// Of long words, each eighth one is enough.
		if len(w) > 12 && k%8 != 0 {
			continue
		}
		_, pairing := readForward(w)
		for _, list := range append(changedPairings(pairing), wantPaired(w, readBackward(w)), repeated(-1, len(w))) {
			want := wantPairing(w, list)
			checkPairing(t, w, list, want)
			pairings += one(want)
			others += one(!want)
		}
	}
	if pairings < 5000 || others < 50000 {
		t.Error(pairings, "pairings,", others, "others")
	}
}

func TestPairingOfProofKnown(t *testing.T) {
	for _, c := range []struct {
		text string
		list []int
		want []int
	}{
		{"", nil, nil}, {"aA", []int{0}, []int{1, 0}}, {"abBA", []int{1, 0}, []int{3, 2, 1, 0}},
		// Proofs that differ and have one pairing.
		{"aAbB", []int{0, 0}, []int{1, 0, 3, 2}}, {"aAbB", []int{2, 0}, []int{1, 0, 3, 2}},
		{"aAaA", []int{0, 0}, []int{1, 0, 3, 2}}, {"aAaA", []int{2, 0}, []int{1, 0, 3, 2}},
		{"abBAcC", []int{1, 0, 0}, []int{3, 2, 1, 0, 5, 4}}, {"abBAcC", []int{1, 2, 0}, []int{3, 2, 1, 0, 5, 4}}, {"abBAcC", []int{4, 1, 0}, []int{3, 2, 1, 0, 5, 4}},
		// Others of the same words, with another one.
		{"aAaA", []int{1, 0}, []int{3, 2, 1, 0}}, {"aAaAaA", []int{0, 0, 0}, []int{1, 0, 3, 2, 5, 4}}, {"aAaAaA", []int{1, 1, 0}, []int{5, 2, 1, 4, 3, 0}}, {"aAaAaA", []int{1, 0, 0}, []int{3, 2, 1, 0, 5, 4}},
		{"aAaAaA", []int{3, 2, 0}, []int{1, 0, 5, 4, 3, 2}}, {"aAaAaA", []int{2, 1, 0}, []int{5, 4, 3, 2, 1, 0}}, {"aAaAaA", []int{3, 1, 0}, []int{5, 2, 1, 4, 3, 0}}, {"abcCcCBA", []int{3, 2, 1, 0}, []int{7, 6, 5, 4, 3, 2, 1, 0}},
	} {
		got, ok := impl.PairingOfProof(wordOf(c.text), c.list)
		wantWord(t, got, ok, c.want, "PairingOfProof", c.text, c.list)
	}
}

// The pairings of all proofs of short words are pairings and full, and all full pairings are
// among them.
func TestPairingsOfAllProofs(t *testing.T) {
	same, several := 0, 0
	for _, w := range ofAtMost(proofWords(), 8) {
		proofs := allProofs(w)
		met := map[string][]int{}
		for _, proof := range proofs {
			got, ok := impl.PairingOfProof(w, proof)
			wantWord(t, got, ok, wantPaired(w, proof), "PairingOfProof", w, proof)
			checkPairing(t, w, got, true)
			if slices.Contains(got, -1) {
				t.Errorf("PairingOfProof(%v, %v) = %v is not full", w, proof, got)
			}
			met[outcomeOf(got).text] = got
		}
		for _, list := range fullPairings(w) {
			if met[outcomeOf(list).text] == nil && len(w) > 0 {
				t.Errorf("%v has the pairing %v, but no proof has it", w, list)
			}
		}
		count, ok := impl.CountPairings(w)
		checkNumber(t, count, ok, len(met), "CountPairings", w)
		several += one(len(met) > 1)
		same += one(len(met) < len(proofs))
	}
	if same < 40 || several < 40 {
		t.Error(same, "words with proofs that have one pairing,", several, "with several pairings")
	}
}

// The proofs of long words, first and last, and some between; each is paired by its own cuts.
func TestPairingsOfProofsOfLongWords(t *testing.T) {
	differ := 0
	state := 31
	for _, w := range vanishingWords() {
		mixed, left := []int{}, w
		for len(left) > 0 {
			cuts := wantCuts(left)
			state = (state*1103515245 + 12345) % (1 << 31)
			i := cuts[(state>>16)%len(cuts)]
			mixed, left = append(mixed, i), afterCut(left, i)
		}
		first, _ := readForward(w)
		pairings := [][]int{}
		for _, proof := range [][]int{first, readBackward(w), mixed} {
			checkProof(t, w, proof, true)
			got, _ := impl.PairingOfProof(w, proof)
			if !wantPairing(w, got) || slices.Contains(got, -1) {
				t.Errorf("PairingOfProof(%v, %v) = %v", w, proof, got)
			}
			checkPairing(t, w, got, true)
			pairings = append(pairings, got)
		}
		own, _ := impl.PairingOf(w)
		wantWord(t, pairings[0], true, own, "PairingOfProof of the first proof", w)
		differ += one(!slices.Equal(pairings[0], pairings[1])) + one(!slices.Equal(pairings[0], pairings[2]))
	}
	if differ < 100 {
		t.Errorf("%d pairings differ", differ)
	}
}
