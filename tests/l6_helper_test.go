package tests

import (
	"slices"
	"strings"
	"testing"

	"loop.example/g01206/impl"
)

// wantKeys are the keys: of all words of at most two letters, those that are reduced.
func wantKeys() [][]int {
	keys := [][]int{}
	for _, w := range shortWords(6, 2) {
		if slices.Equal(wantReduced(w), w) {
			keys = append(keys, w)
		}
	}
	return keys
}

// fallsJust reports whether a word falls for just the sets of a table.
func fallsJust(w []int, table [64]bool) bool {
	for set, falls := range table {
		if falls != (len(wantLeft(w, set)) == 0) {
			return false
		}
	}
	return true
}

// wantFirst is the first word that is made of u and a conjugate of v by a key, and falls for just
// the sets of a table, and the number of this key.
func wantFirst(u []int, v []int, table [64]bool, made func(u []int, v []int) []int) ([]int, int, bool) {
	for k, key := range wantKeys() {
		w := made(u, joined(key, v, opposite(key)))
		if len(w) <= impl.MaxWord && fallsJust(w, table) {
			return w, k, true
		}
	}
	return nil, 0, false
}

// wantOrWord and wantAndWord are those words, by the document's definition.
func wantOrWord(u []int, v []int) ([]int, int, bool) {
	either, ofV := wantFalls(u), wantFalls(v)
	for set := range either {
		either[set] = either[set] || ofV[set]
	}
	return wantFirst(u, v, either, commutator)
}

func wantAndWord(u []int, v []int) ([]int, int, bool) {
	both, ofV := wantFalls(u), wantFalls(v)
	for set := range both {
		both[set] = both[set] && ofV[set]
	}
	return wantFirst(u, v, both, func(u []int, v []int) []int { return wantReduced(joined(u, v)) })
}

// wantSetWord is the word of all nails of a set.
func wantSetWord(set int) []int {
	w := []int{}
	for nail := 1; nail <= 6; nail++ {
		if inSet(nail, set) {
			w = append(w, nail)
		}
	}
	return w
}

// setWords are the set words of a list of sets.
func setWords(sets []int) [][]int {
	words := [][]int{}
	for _, set := range sets {
		words = append(words, wantSetWord(set))
	}
	return words
}

// wantChain is the word that is made of words, one after the other.
func wantChain(words [][]int) ([]int, bool) {
	whole := words[0]
	for _, w := range words[1:] {
		or, _, ok := wantOrWord(whole, w)
		if !ok {
			return nil, false
		}
		whole = or
	}
	return whole, true
}

// wantHalves is the word that is made of both halves of words.
func wantHalves(words [][]int) ([]int, bool) {
	if len(words) == 1 {
		return words[0], true
	}
	half := len(words)/2 + len(words)%2
	u, ok := wantHalves(words[:half])
	v, fine := wantHalves(words[half:])
	if !ok || !fine {
		return nil, false
	}
	or, _, ok := wantOrWord(u, v)
	return or, ok
}

// wantShort is the least word that is made of words in any order: of all lists of places, those
// that have each place once are the orders.
func wantShort(words [][]int) ([]int, bool) {
	least, found := []int(nil), false
	lists := 1
	for range words {
		lists *= len(words)
	}
	for number := range lists {
		order, used := [][]int{}, map[int]bool{}
		for range words {
			used[number%len(words)] = true
			order = append(order, words[number%len(words)])
			number /= len(words)
		}
		if len(used) < len(words) {
			continue
		}
		w, ok := wantChain(order)
		if ok && (!found || comesBefore(w, least)) {
			least, found = w, true
		}
	}
	return least, found
}

// comesBefore tells of two words whether the first one comes before the other one.
func comesBefore(u []int, v []int) bool {
	return len(u) < len(v) || len(u) == len(v) && orderText(u) < orderText(v)
}

// wantTrimmed takes out letters by the document's definition.
func wantTrimmed(w []int) []int {
	left := wantReduced(w)
	table := wantFalls(left)
	for i := 0; i < len(left); i++ {
		rest := wantReduced(joined(left[:i], left[i+1:]))
		if fallsJust(rest, table) {
			left = rest
			i = -1
		}
	}
	return left
}

// checkJoined checks both words that are made of two, and for which Families they are.
func checkJoined(t *testing.T, u []int, v []int) {
	t.Helper()
	f, _ := impl.FamilyOfWord(u)
	g, _ := impl.FamilyOfWord(v)
	or, k, ok := impl.OrWord(u, v)
	want, key, fine := wantOrWord(u, v)
	checkKeyed(t, keyed{or, k, ok}, keyed{want, key, fine}, "OrWord", u, v)
	either, _ := impl.OrFamily(f, g)
	if is, _ := impl.IsWordFor(or, either); ok && !is {
		t.Errorf("OrWord(%v, %v) = %v is not for %v", u, v, or, either)
	}
	and, k, ok := impl.AndWord(u, v)
	want, key, fine = wantAndWord(u, v)
	checkKeyed(t, keyed{and, k, ok}, keyed{want, key, fine}, "AndWord", u, v)
	both, _ := impl.AndFamily(f, g)
	if is, _ := impl.IsWordFor(and, both); ok && !is {
		t.Errorf("AndWord(%v, %v) = %v is not for %v", u, v, and, both)
	}
}

// keyed is what OrWord and AndWord tell: a word, the number of its key, and whether there is one.
type keyed struct {
	w  []int
	k  int
	ok bool
}

// noneKeyed is what they tell where there is none.
func noneKeyed() keyed {
	return keyed{nil, 0, false}
}

func checkKeyed(t *testing.T, got keyed, want keyed, call ...any) {
	t.Helper()
	if got.ok != want.ok || got.k != want.k || !slices.Equal(got.w, want.w) {
		t.Errorf("%v = %v, not %v", call, got, want)
	}
}

// joinCalls are the functions of two words of chapter 6.
func joinCalls() []wordCall {
	return []wordCall{
		{"OrWord", func(u, v []int) outcome { a, k, ok := impl.OrWord(u, v); return outcomeOf(a, k, ok) }},
		{"AndWord", func(u, v []int) outcome { a, k, ok := impl.AndWord(u, v); return outcomeOf(a, k, ok) }},
	}
}

// buildCalls are the functions of a Family alone, told by its Sets.
func buildCalls() []wordCall {
	return []wordCall{
		{"BuildWord", func(u, _ []int) outcome { a, ok := impl.BuildWord(family(u...)); return outcomeOf(a, ok) }},
		{"BuildHalves", func(u, _ []int) outcome { a, ok := impl.BuildHalves(family(u...)); return outcomeOf(a, ok) }},
		{"BuildShort", func(u, _ []int) outcome { a, ok := impl.BuildShort(family(u...)); return outcomeOf(a, ok) }},
		{"CostOf", func(u, _ []int) outcome { a, ok := impl.CostOf(family(u...)); return outcomeOf(a, ok) }},
	}
}

func trimWordCall() wordCall {
	return wordCall{"TrimWord", func(u, _ []int) outcome { a, ok := impl.TrimWord(u); return outcomeOf(a, ok) }}
}

// isWordForCall takes its second list as the Sets.
func isWordForCall() wordCall {
	return wordCall{"IsWordFor", func(u, v []int) outcome {
		a, ok := impl.IsWordFor(u, family(v...))
		return outcomeOf(a, ok)
	}}
}

// wordOf is the word of a text of letters.
func wordOf(text string) []int {
	w := []int{}
	for i := range len(text) {
		w = append(w, strings.IndexByte("FEDCBA abcdef", text[i])-6)
	}
	return w
}
