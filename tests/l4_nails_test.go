package tests

import (
	"math"
	"slices"
	"testing"

	"loop.example/g01206/impl"
)

func TestLeftWordKnown(t *testing.T) {
	known := []struct{ nails, want []int }{
		{[]int{1}, []int{1}}, {[]int{6}, []int{6}}, {[]int{1, 2}, []int{1, 2, -1, -2}}, {[]int{2, 1}, []int{2,
			1, -2, -1}},
		{[]int{1, 2, 3}, []int{1, 2, -1, -2, 3, 2, 1, -2, -1, -3}}, {[]int{6, 1, 4}, []int{6, 1, -6, -1, 4, 1,
			6, -1, -6, -4}},
	}
	for _, k := range known {
		got, ok := impl.LeftWord(k.nails)
		wantWord(t, got, ok, k.want, "LeftWord", k.nails)
	}
}

func TestBalancedWordKnown(t *testing.T) {
	known := []struct {
		nails, want []int
		tree        string
	}{
		{[]int{1}, []int{1}, "a"}, {[]int{6}, []int{6}, "f"}, {[]int{1, 2}, []int{1, 2, -1, -2}, "[a,b]"},
		{[]int{5, 3}, []int{5, 3, -5, -3}, "[e,c]"}, {[]int{3, 1, 2}, []int{3, 1, -3, -1, 2, 1, 3, -1, -3, -2},
			"[[c,a],b]"},
		{[]int{1, 2, 3, 4}, []int{1, 2, -1, -2, 3, 4, -3, -4, 2, 1, -2, -1, 4, 3, -4, -3}, "[[a,b],[c,d]]"},
		{[]int{5, 4, 3, 2, 1}, commutator(commutator(commutator([]int{5}, []int{4}), []int{3}),
			commutator([]int{2}, []int{1})),
			"[[[e,d],c],[b,a]]"},
		{[]int{1, 2, 3, 4, 5, 6}, commutator(commutator(commutator([]int{1}, []int{2}), []int{3}),
			commutator(commutator([]int{4}, []int{5}), []int{6})), "[[[a,b],c],[[d,e],f]]"},
	}
	for _, k := range known {
		got, ok := impl.BalancedWord(k.nails)
		wantWord(t, got, ok, k.want, "BalancedWord", k.nails)
		if tree, ok := impl.BalancedTree(k.nails); !ok || tree != k.tree {
			t.Errorf("BalancedTree(%v) = %q, %v", k.nails, tree, ok)
		}
	}
}

// checkLength checks that a word is reduced as it stands, and has the length that is told.
func checkLength(t *testing.T, w []int, n int, lengthOf func(int) (int, bool)) {
	t.Helper()
	length, ok := lengthOf(n)
	if !ok || length != len(w) || !slices.Equal(wantReduced(w), w) {
		t.Errorf("%v of %d nails, length %d, %v", w, n, length, ok)
	}
}

func TestLeftWordOfAllLists(t *testing.T) {
	for _, nails := range differentLists() {
		want := wantLeftWord(nails)
		checkLength(t, want, len(nails), impl.LeftLength)
		got, ok := impl.LeftWord(nails)
		if len(nails) == 6 {
			// It would have 94 letters.
			wantNone(t, got, ok, "LeftWord", nails)
			continue
		}
		wantWord(t, got, ok, want, "LeftWord", nails)
		checkLength(t, got, len(nails), impl.LeftLength)
		checkAnyOne(t, got, nails)
	}
}

func TestBalancedWordOfAllLists(t *testing.T) {
	for _, nails := range differentLists() {
		got, ok := impl.BalancedWord(nails)
		wantWord(t, got, ok, wantBalancedWord(nails), "BalancedWord", nails)
		checkLength(t, got, len(nails), impl.BalancedLength)
		checkAnyOne(t, got, nails)
		tree, ok := impl.BalancedTree(nails)
		value, fine := impl.TreeValue(tree)
		wantWord(t, value, ok && fine, got, "TreeValue of BalancedTree", nails, tree)
		if length, ok := impl.TreeLength(tree); !ok || length != len(got) {
			t.Errorf("TreeLength(%q) = %d, %v", tree, length, ok)
		}
		if _, leaves, ok := impl.TreeShape(tree); !ok || leaves != len(nails) {
			t.Errorf("TreeShape(%q) tells %d leaves, %v", tree, leaves, ok)
		}
	}
}

// checkAnyOne checks that a word falls for just those sets that have any one of some nails.
func checkAnyOne(t *testing.T, w []int, nails []int) {
	t.Helper()
	// Not for all lists, which would take long.
	if len(nails) > 4 && !slices.IsSorted(nails) {
		return
	}
	for set, falls := range wantFalls(w) {
		if falls != slices.ContainsFunc(nails, func(nail int) bool { return inSet(nail, set) }) {
			t.Errorf("%v of %v and the set %d: it falls %v", w, nails, set, falls)
		}
	}
}

func TestFunctionsOfNailsRefuseOtherLists(t *testing.T) {
	for _, c := range nailListCalls() {
		for _, list := range noLists() {
			if got := c.call(list, nil); !got.failed {
				t.Errorf("%s(%v) = %s", c.name, list[:min(len(list), 10)], got.text)
			}
		}
		for nail := 1; nail <= impl.MaxNails; nail++ {
			if got := c.call([]int{nail}, nil); got.failed {
				t.Errorf("%s of the nail %d fails", c.name, nail)
			}
		}
	}
}

func TestLengthsKnown(t *testing.T) {
	for i, want := range []int{1, 4, 10, 22, 46, 94, 190, 382} {
		if got, ok := impl.LeftLength(i + 1); !ok || got != want {
			t.Errorf("LeftLength(%d) = %d, %v", i+1, got, ok)
		}
	}
	for i, want := range []int{1, 4, 10, 16, 28, 40, 52, 64, 88, 112} {
		if got, ok := impl.BalancedLength(i + 1); !ok || got != want {
			t.Errorf("BalancedLength(%d) = %d, %v", i+1, got, ok)
		}
	}
	if got, ok := impl.LeftLength(40); !ok || got != 1649267441662 {
		t.Errorf("LeftLength(40) = %d, %v", got, ok)
	}
	if got, ok := impl.BalancedLength(40); !ok || got != 1792 {
		t.Errorf("BalancedLength(40) = %d, %v", got, ok)
	}
}

// Of all nails: 3 * 2 to the power n - 1, less 2; and squares of powers of 2, with equal steps
// between them.
func TestLengthsOfAllNumbers(t *testing.T) {
	power := 1
	for n := 1; n <= 40; n++ {
		if n == 2*power {
			power = n
		}
		want := 3<<(n-1) - 2
		if got, ok := impl.LeftLength(n); !ok || got != want {
			t.Errorf("LeftLength(%d) = %d, %v, not %d", n, got, ok, want)
		}
		want = power*power + 3*power*(n-power)
		if got, ok := impl.BalancedLength(n); !ok || got != want {
			t.Errorf("BalancedLength(%d) = %d, %v, not %d", n, got, ok, want)
		}
	}
}

func TestLengthsRefuseOtherNumbers(t *testing.T) {
	numbers := []int{0, 41, -1, -2, 42, 63, 64, 65, 100, -40, -41, math.MaxInt, math.MinInt, math.MaxInt - 1,
		math.MinInt + 1}
	for _, n := range append(numbers, 1<<32, 1<<32+1, 1<<62, -1<<32, 256, 257, 1000000) {
		if got, ok := impl.LeftLength(n); ok || got != 0 {
			t.Errorf("LeftLength(%d) = %d, %v", n, got, ok)
		}
		if got, ok := impl.BalancedLength(n); ok || got != 0 {
			t.Errorf("BalancedLength(%d) = %d, %v", n, got, ok)
		}
	}
}
