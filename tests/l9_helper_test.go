package tests

import (
	"math/big"
	"slices"
	"strconv"
	"testing"

	"loop.example/g01206/impl"
)

// played is what the document tells of a position that is not ended: the moves that win either
// game, its number, the nails that are safe, and how many nails come till the word falls.
type played struct {
	drop   []int
	keep   []int
	number int
	safe   []int
	long   int
	short  int
	mean   [2]int
	odd    [2]int
}

// positions are those of a word and of the nails 1..n, by the document's definition; there is
// none where a position is ended or not valid.
type positions [64]*played

// wantPositions tells of the positions with the most nails first, as the others lead to them.
func wantPositions(falls [64]bool, n int) *positions {
	all := &positions{}
	full := subsetsOf(n) - 1
	for set := full; set >= 0 && falls[full]; set-- {
		if !falls[set] {
			all[set] = all.wantAt(set, n)
		}
	}
	return all
}

// wantAt tells of a position by those to which it leads.
func (all *positions) wantAt(set int, n int) *played {
	p := &played{short: 7}
	numbers := map[int]bool{}
	for nail := 1; nail <= n; nail++ {
		if inSet(nail, set) {
			continue
		}
		next := all[set+oneNail(nail)]
		if next == nil {
			p.drop = append(p.drop, nail)
			p.long, p.short = max(p.long, 1), 1
			continue
		}
		p.safe = append(p.safe, nail)
		if len(next.drop) == 0 {
			p.drop = append(p.drop, nail)
		}
		if len(next.keep) == 0 {
			p.keep = append(p.keep, nail)
		}
		numbers[next.number] = true
		p.long, p.short = max(p.long, next.long+1), min(p.short, next.short+1)
	}
	for numbers[p.number] {
		p.number++
	}
	p.mean, p.odd = all.wantMeans(set, n)
	return p
}

// wantMeans are the mean number of nails and the chance that it is odd: each nail that is in has
// the same part in both.
func (all *positions) wantMeans(set int, n int) ([2]int, [2]int) {
	one := big.NewRat(1, 1)
	mean, odd, in := new(big.Rat), new(big.Rat), new(big.Rat)
	for nail := 1; nail <= n; nail++ {
		if inSet(nail, set) {
			continue
		}
		in.Add(in, one)
		mean.Add(mean, one)
		odd.Add(odd, one)
		if next := all[set+oneNail(nail)]; next != nil {
			mean.Add(mean, big.NewRat(int64(next.mean[0]), int64(next.mean[1])))
			odd.Sub(odd, big.NewRat(int64(next.odd[0]), int64(next.odd[1])))
		}
	}
	return ints(mean.Quo(mean, in)), ints(odd.Quo(odd, in))
}

// oneNail is the set of one nail.
func oneNail(nail int) int {
	return []int{0, 1, 2, 4, 8, 16, 32}[nail]
}

// ints is a fraction as two numbers.
func ints(r *big.Rat) [2]int {
	return [2]int{int(r.Num().Int64()), int(r.Denom().Int64())}
}

// losing are the positions at which who is to move loses a game.
func (all *positions) losing(drop bool) []int {
	sets := []int{}
	for set, p := range all {
		if p != nil && (drop && len(p.drop) == 0 || !drop && len(p.keep) == 0) {
			sets = append(sets, set)
		}
	}
	return sets
}

// checkPosition checks all that is told of a position; if there is none, each function fails.
func checkPosition(t *testing.T, w []int, n int, set int, want *played) {
	t.Helper()
	if want == nil {
		refuse(t, w, positionCalls(n, set)...)
		return
	}
	canDrop, ok := impl.CanDrop(w, n, set)
	checkFlag(t, canDrop, ok, len(want.drop) > 0, "CanDrop", w, n, set)
	drop, ok := impl.DropMoves(w, n, set)
	wantWord(t, drop, ok, want.drop, "DropMoves", w, n, set)
	canKeep, ok := impl.CanKeep(w, n, set)
	checkFlag(t, canKeep, ok, len(want.keep) > 0, "CanKeep", w, n, set)
	keep, ok := impl.KeepMoves(w, n, set)
	wantWord(t, keep, ok, want.keep, "KeepMoves", w, n, set)
	number, ok := impl.KeepNumber(w, n, set)
	checkNumber(t, number, ok, want.number, "KeepNumber", w, n, set)
	safe, ok := impl.SafeNails(w, n, set)
	wantWord(t, safe, ok, want.safe, "SafeNails", w, n, set)
	checkLengths(t, w, n, set, want)
}

// checkLengths checks how many nails come till the word falls.
func checkLengths(t *testing.T, w []int, n int, set int, want *played) {
	t.Helper()
	long, ok := impl.LongestGame(w, n, set)
	checkNumber(t, long, ok, want.long, "LongestGame", w, n, set)
	short, ok := impl.ShortestGame(w, n, set)
	checkNumber(t, short, ok, want.short, "ShortestGame", w, n, set)
	mean, ok := impl.MeanGame(w, n, set)
	checkFraction(t, mean, ok, want.mean, "MeanGame", w, n, set)
	odd, ok := impl.ChanceOdd(w, n, set)
	checkFraction(t, odd, ok, want.odd, "ChanceOdd", w, n, set)
}

func checkFraction(t *testing.T, got [2]int, ok bool, want [2]int, call ...any) {
	t.Helper()
	if !ok || got != want {
		t.Errorf("%v = %v, %v, not %v", call, got, ok, want)
	}
}

// positionCalls are the functions of one position of chapter 9. PlayNails takes the second list
// as the nails.
func positionCalls(n int, set int) []wordCall {
	names := " " + strconv.Itoa(n) + " " + strconv.Itoa(set)
	return []wordCall{
		{"CanDrop" + names, func(u, _ []int) outcome { a, ok := impl.CanDrop(u, n, set); return outcomeOf(a, ok) }},
		{"DropMoves" + names, func(u, _ []int) outcome { a, ok := impl.DropMoves(u, n, set); return outcomeOf(a, ok) }},
		{"CanKeep" + names, func(u, _ []int) outcome { a, ok := impl.CanKeep(u, n, set); return outcomeOf(a, ok) }},
		{"KeepMoves" + names, func(u, _ []int) outcome { a, ok := impl.KeepMoves(u, n, set); return outcomeOf(a, ok) }},
		{"KeepNumber" + names, func(u, _ []int) outcome { a, ok := impl.KeepNumber(u, n, set); return outcomeOf(a, ok) }},
		{"SafeNails" + names, func(u, _ []int) outcome { a, ok := impl.SafeNails(u, n, set); return outcomeOf(a, ok) }},
		{"LongestGame" + names, func(u, _ []int) outcome { a, ok := impl.LongestGame(u, n, set); return outcomeOf(a, ok) }},
		{"ShortestGame" + names, func(u, _ []int) outcome { a, ok := impl.ShortestGame(u, n, set); return outcomeOf(a, ok) }},
		{"MeanGame" + names, func(u, _ []int) outcome { a, ok := impl.MeanGame(u, n, set); return outcomeOf(a, ok) }},
		{"ChanceOdd" + names, func(u, _ []int) outcome { a, ok := impl.ChanceOdd(u, n, set); return outcomeOf(a, ok) }},
		playNailsCall(n, set),
	}
}

func playNailsCall(n int, set int) wordCall {
	return wordCall{"PlayNails " + strconv.Itoa(n) + " " + strconv.Itoa(set), func(u, v []int) outcome {
		a, b, ok := impl.PlayNails(u, n, set, v)
		return outcomeOf(a, b, ok)
	}}
}

// losingCalls are LosingSets for both games.
func losingCalls(n int) []wordCall {
	calls := []wordCall{}
	for _, drop := range []bool{false, true} {
		calls = append(calls, wordCall{"LosingSets " + strconv.Itoa(n) + " " + strconv.FormatBool(drop), func(u, _ []int) outcome {
			a, ok := impl.LosingSets(u, n, drop)
			return outcomeOf(a, ok)
		}})
	}
	return calls
}

// gameCalls are all functions of chapter 9, with some numbers and positions that are valid for
// some words.
func gameCalls() []wordCall {
	calls := []wordCall{}
	for _, n := range []int{1, 2, 3, 6} {
		calls = append(calls, losingCalls(n)...)
	}
	for _, at := range [][2]int{{1, 0}, {2, 0}, {2, 2}, {3, 0}, {3, 4}, {6, 0}, {6, 20}, {6, 62}} {
		calls = append(calls, positionCalls(at[0], at[1])...)
	}
	return calls
}

// ruleWords are words for the rules of falling of four nails, of which each falls for some sets,
// but not when no nail is out, and for some rules of more nails.
func ruleWords(t *testing.T) [][]int {
	t.Helper()
	words := [][]int{}
	for _, sets := range append(allFamilies(4), knownFamilies()...) {
		if len(sets) == 0 || sets[0] == 0 {
			continue
		}
		if w, ok := impl.BuildShort(family(sets...)); ok {
			words = append(words, w)
		}
	}
	if len(words) < 120 {
		t.Fatalf("%d words", len(words))
	}
	return words
}

// ordersOfNails are all lists of the nails 1..n that are not in a set, each once.
func ordersOfNails(n int, set int) [][]int {
	orders := [][]int{}
	for nail := 1; nail <= n; nail++ {
		if !inSet(nail, set) {
			for _, rest := range ordersOfNails(n, set+oneNail(nail)) {
				orders = append(orders, joined([]int{nail}, rest))
			}
		}
	}
	if len(orders) == 0 {
		return [][]int{{}}
	}
	return orders
}

// nailsOut are the nails of a set, in ascending order.
func nailsOut(set int) []int {
	return slices.DeleteFunc([]int{1, 2, 3, 4, 5, 6}, func(nail int) bool { return !inSet(nail, set) })
}
