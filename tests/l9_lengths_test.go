package tests

import (
	"math/big"
	"slices"
	"testing"

	"loop.example/g01206/impl"
)

// lengthsOf are the numbers of nails of all games from a position on, told by chapter 3: all
// orders in which the nails that are in can be taken out have the same chance.
func lengthsOf(t *testing.T, w []int, n int, set int) []int {
	t.Helper()
	out := nailsOut(set)
	lengths := []int{}
	for _, order := range ordersOfNails(n, set) {
		behind, ok := impl.FallOrder(w, joined(out, order))
		if !ok || behind <= len(out) {
			t.Fatalf("FallOrder(%v, %v, then %v) = %d, %v", w, out, order, behind, ok)
		}
		lengths = append(lengths, behind-len(out))
	}
	return lengths
}

func TestLengthsAreThoseOfAllOrders(t *testing.T) {
	for i, c := range gameCases() {
		w := wordOf(c.text)
		for set := range subsetsOf(c.n) {
			if falls, _ := impl.DoesFall(w, set); falls || set != 0 && (set+i)%4 != 0 {
				continue
			}
			lengths := lengthsOf(t, w, c.n, set)
			sum, odd := 0, 0
			for _, length := range lengths {
				sum += length
				odd += length % 2
			}
			checkLengths(t, w, c.n, set, &played{
				long: slices.Max(lengths), short: slices.Min(lengths),
				mean: ints(big.NewRat(int64(sum), int64(len(lengths)))), odd: ints(big.NewRat(int64(odd), int64(len(lengths)))),
			})
		}
	}
}

// Promise 9: the mean is between the least and the greatest number of nails.
func TestMeanGamesLieBetween(t *testing.T) {
	wholes, parts := 0, 0
	for i, w := range append(ruleWords(t), windingWords()...) {
		n := 1 + i%6
		for set := range subsetsOf(n) {
			mean, ok := impl.MeanGame(w, n, set)
			odd, oddOk := impl.ChanceOdd(w, n, set)
			long, longOk := impl.LongestGame(w, n, set)
			short, shortOk := impl.ShortestGame(w, n, set)
			if ok != oddOk || ok != longOk || ok != shortOk {
				t.Errorf("%v, %d, %d: %v, %v, %v, %v", w, n, set, ok, oddOk, longOk, shortOk)
			}
			if !ok {
				continue
			}
			if mean[1] < 1 || short < 1 || short*mean[1] > mean[0] || mean[0] > long*mean[1] || long > n-wantSize(set) {
				t.Errorf("%v, %d, %d: %v between %d and %d", w, n, set, mean, short, long)
			}
			if odd[0] < 0 || odd[0] > odd[1] || odd[1] < 1 || mean != lowest(mean) || odd != lowest(odd) {
				t.Errorf("%v, %d, %d: chance %v, mean %v", w, n, set, odd, mean)
			}
			if mean[1] == 1 {
				wholes++
			} else {
				parts++
			}
		}
	}
	if wholes < 100 || parts < 100 {
		t.Errorf("%d whole means, %d others", wholes, parts)
	}
}

// lowest is a fraction in lowest terms.
func lowest(fraction [2]int) [2]int {
	return ints(big.NewRat(int64(fraction[0]), int64(fraction[1])))
}

// A word that falls for one nail alone falls in the mean behind the half of all nails, and one
// that falls for all of them behind the last one.
func TestLengthsWithNailsThatDoNotMatter(t *testing.T) {
	all := []int{1, 2, 3, 4, 5, 6}
	for n := 1; n <= 6; n++ {
		for nail := 1; nail <= n; nail++ {
			want := &played{long: n, short: 1, mean: lowest([2]int{n + 1, 2}), odd: lowest([2]int{(n + 1) / 2, n})}
			checkLengths(t, []int{nail}, n, 0, want)
			checkLengths(t, repeated(-nail, 64), n, 0, want)
		}
		checkLengths(t, all[:n], n, 0, &played{long: n, short: n, mean: [2]int{n, 1}, odd: [2]int{n % 2, 1}})
		checkLengths(t, anyOf(1, n), n, 0, &played{long: 1, short: 1, mean: [2]int{1, 1}, odd: [2]int{1, 1}})
	}
}

// A nail that is no letter of the word has the same chance as the others.
func TestNailsThatAreNoLettersHaveTheSameChance(t *testing.T) {
	for n := 2; n <= 6; n++ {
		for k := 1; k < n; k++ {
			// Of n nails, any one of k makes the word fall, in the mean behind (n+1)/(k+1).
			mean, ok := impl.MeanGame(anyOf(1, k), n, 0)
			checkFraction(t, mean, ok, lowest([2]int{n + 1, k + 1}), "MeanGame", anyOf(1, k), n)
			// All of k do behind k times as many, as the last of them.
			whole := []int{1, 2, 3, 4, 5, 6}[:k]
			mean, ok = impl.MeanGame(whole, n, 0)
			checkFraction(t, mean, ok, lowest([2]int{k * (n + 1), k + 1}), "MeanGame", whole, n)
		}
	}
}
