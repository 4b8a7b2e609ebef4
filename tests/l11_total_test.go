package tests

import (
	"math"
	"slices"
	"testing"

	"loop.example/g01206/impl"
)

// anyLists are lists that are proofs and pairings of some words, and others.
func anyLists() [][]int {
	return append(noProofs(), nil, []int{0}, []int{1, 0}, []int{-1}, []int{3, 2, 1, 0}, []int{-1, 2, 1, -1}, repeated(-1, 64), repeated(-1, 65), repeated(0, 32))
}

func TestProofsRefuseWhatIsNoWord(t *testing.T) {
	refuseNoWords(t, proofCalls(), nil)
	refuseNoWords(t, proofListCalls(), anyLists()...)
	for _, w := range noWords() {
		for i := -1; i <= 66; i++ {
			refuse(t, w, makeCutCall(i))
		}
	}
	// Each letter of these would be taken out, or cut, if they were words.
	for _, w := range [][]int{
		{0, 0}, {7, -7}, {-7, 7}, {1, -1, 0}, {0, 1, -1}, {1, -1, 7, -7}, {math.MinInt, math.MinInt}, {math.MaxInt, -math.MaxInt}, slices.Repeat([]int{1, -1}, 33),
		joined(slices.Repeat([]int{1, -1}, 32), []int{2}), make([]int, 12), make([]int, 20),
	} {
		refuse(t, w, proofCalls()...)
		list := []int{}
		for range len(w) / 2 {
			list = append(list, 0)
		}
		_, pairing := readForward(w)
		for _, c := range proofListCalls() {
			for _, second := range [][]int{nil, list, pairing, repeated(-1, len(w))} {
				if got := c.call(w, second); !got.failed {
					t.Errorf("%s(%v, %v) = %s", c.name, w, second, got.text)
				}
			}
		}
	}
}

// noCuts are places that are no cuts: the last letter, behind it, ahead of the word, letters that
// are not followed by their opposites, and far numbers.
func noCuts(w []int) []int {
	places := append(noFrom(0, len(w)-2), -1, len(w)-1, len(w), len(w)+1, 64, 128, -128, math.MaxInt-2)
	for i := range w {
		places = append(places, i, i-len(w), i+len(w), i+1<<32, i-1<<32, i+1<<62)
	}
	return slices.DeleteFunc(places, func(i int) bool { return slices.Contains(wantCuts(w), i) })
}

func TestMakeCutRefusesOtherPlaces(t *testing.T) {
	refused := 0
	words := append(shortWords(2, 4), vanishingWords()...)
	for _, w := range append(words, repeated(1, 64), slices.Repeat([]int{1, 2, -1, -2}, 16), []int{1, -2}, []int{1, 2, -1}, []int{6}, []int{1, 1, -1}) {
		for _, i := range noCuts(w) {
			got, ok := impl.MakeCut(w, i)
			wantNone(t, got, ok, "MakeCut", w, i)
			refused++
		}
	}
	if refused < 20000 {
		t.Errorf("%d places", refused)
	}
}

// A list of any kind is no proof of a word, or no pairing; only PairingOfProof fails for it.
func TestListsOfAnyKindAreNoProofs(t *testing.T) {
	for _, w := range append(wordsThatMayBeAnything(), wordOf("aAbB"), wordOf("aAaA"), wordOf("abBA"), repeated(1, 64), slices.Repeat([]int{1, -1}, 32)) {
		for _, list := range noProofs() {
			checkProof(t, w, list, false)
			checkPairing(t, w, list, wantPairing(w, list))
		}
	}
	// Long lists, which begin like a proof or a pairing.
	for _, w := range vanishingWords() {
		first, pairing := readForward(w)
		for _, rest := range [][]int{{0}, {-1}, {math.MinInt}, repeated(0, 1000), repeated(-1, 64), {len(w)}} {
			checkProof(t, w, joined(first, rest), false)
			checkPairing(t, w, joined(pairing, rest), false)
		}
	}
}

func TestProofsTakeAllWords(t *testing.T) {
	for _, w := range append(wordsThatMayBeAnything(), proofWords()...) {
		_, one := impl.CutsOf(w)
		_, two := impl.PairingOf(w)
		_, three := impl.LeastLetters(w)
		_, four := impl.IsProof(w, nil)
		_, five := impl.IsPairing(w, nil)
		if !one || !two || !three || !four || !five {
			t.Errorf("functions of %v failed: %v, %v, %v, %v, %v", w, one, two, three, four, five)
		}
	}
}

func TestProofsTakeNilAsEmpty(t *testing.T) {
	takeNilAsEmpty(t, append(proofCalls(), proofListCalls()...))
}

func TestProofsLeaveArgumentsAlone(t *testing.T) {
	leaveAlone(t, proofCalls(), wordPairs())
	pairs := wordPairs()
	for _, text := range []string{"", "a", "aA", "aAbB", "aAaA", "abBA", "abBAcC", "aAa", "abAB", "aAbaABcC", long("aA", 32), long("a", 32) + long("A", 32), long("aA", 10)} {
		w := wordOf(text)
		first, pairing := readForward(w)
		for _, list := range append(changedLists(first), first, readBackward(w), pairing, repeated(-1, len(w)), repeated(0, len(w)/2)) {
			pairs = append(pairs, [2][]int{w, list})
		}
	}
	for _, w := range append(noWords()[:20], vanishingWords()...) {
		first, pairing := readForward(w)
		pairs = append(pairs, [2][]int{w, first}, [2][]int{w, readBackward(w)}, [2][]int{w, pairing})
	}
	leaveAlone(t, append(proofCalls(), proofListCalls()...), pairs)
}

// Each place of a word is made a cut, if it is one.
func TestMakeCutLeavesItsWordAlone(t *testing.T) {
	for _, w := range vanishingWords() {
		calls := []wordCall{}
		for i := range w {
			calls = append(calls, makeCutCall(i))
		}
		leaveAlone(t, calls, [][2][]int{{w, nil}})
	}
}

func TestProofsTakeSharedMemory(t *testing.T) {
	for _, list := range [][]int{{1, 2, -2, 3, -1, 4, 4}, {1, -1, 1, -1, 1, -1, 1}, {-1, 2, 1, -1, -2, 2, 1}, {3, 2, 1, -1, -2, -3, 1}} {
		takeSharedMemory(t, proofListCalls(), list)
	}
	// The last letter of the word is the first number of the list.
	room := joined([]int{-1, 2, -2, 1, 0}, repeated(5, 80))
	before := slices.Clone(room)
	w, proof := room[0:4], room[3:5]
	checkProof(t, w, proof, true)
	pairing, ok := impl.PairingOfProof(w, proof)
	wantWord(t, pairing, ok, []int{3, 2, 1, 0}, "PairingOfProof of shared memory")
	if !slices.Equal(room, before) {
		t.Errorf("shared memory is changed: %v", room[:5])
	}
	// A list that is a pairing of itself.
	room = joined([]int{1, -1, -1}, repeated(5, 80))
	checkPairing(t, room[1:3], room[1:3], true)
	checkPairing(t, room[0:3], room[0:3], false)
}

// What is told of a word stays when the word and the list are changed behind the call.
func TestAnswersStayWhenTheirProofsAreChanged(t *testing.T) {
	w, list := wordOf("abBAcC"), []int{4, 1, 0}
	cuts, _ := impl.CutsOf(w)
	behind, _ := impl.MakeCut(w, 4)
	first, _ := impl.FirstProof(w)
	last, _ := impl.LastProof(w)
	own, _ := impl.PairingOf(w)
	byList, _ := impl.PairingOfProof(w, list)
	spoil(w)
	spoil(list)
	for _, pair := range [][2][]int{
		{cuts, {1, 4}}, {behind, {1, 2, -2, -1}}, {first, {1, 0, 0}}, {last, {4, 1, 0}}, {own, {3, 2, 1, 0, 5, 4}}, {byList, {3, 2, 1, 0, 5, 4}},
	} {
		if !slices.Equal(pair[0], pair[1]) {
			t.Errorf("%v, not %v", pair[0], pair[1])
		}
	}
}

// A change of an answer, and of the room behind it, changes no later answer of any function.
func TestProofsAreTheirOwn(t *testing.T) {
	for _, c := range proofCases() {
		w := wordOf(c.text)
		calls := append(proofCalls(), proofListCalls()...)
		texts := []string{}
		for _, call := range calls {
			texts = append(texts, call.call(w, c.first).text)
		}
		for _, call := range calls {
			for _, list := range call.call(w, c.first).lists {
				spoil(list)
			}
			for k, other := range calls {
				if got := other.call(w, c.first).text; got != texts[k] {
					t.Errorf("%s(%s, %v) = %s, and behind a change of %s %s", other.name, c.text, c.first, texts[k], call.name, got)
				}
			}
		}
	}
}
