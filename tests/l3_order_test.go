package tests

import (
	"testing"

	"loop.example/g01206/impl"
)

func TestHangsByKnown(t *testing.T) {
	known := []struct {
		w []int
		// The answers for the nails 1..n, n from 1 to 6; -1 where there is none.
		by [6]int
	}{
		{nil, [6]int{}}, {[]int{1, -1}, [6]int{}}, {[]int{6, 5, -5, -6}, [6]int{}},
		{[]int{1}, [6]int{1, -1, -1, -1, -1, -1}}, {[]int{-1, -1}, [6]int{1, -1, -1, -1, -1, -1}},
		{[]int{2}, [6]int{-1, -1, -1, -1, -1, -1}}, {[]int{6}, [6]int{-1, -1, -1, -1, -1, -1}},
		{[]int{1, 2}, [6]int{-1, 2, -1, -1, -1, -1}}, {[]int{2, 1, 1}, [6]int{-1, 2, -1, -1, -1, -1}},
		{[]int{1, 2, 3}, [6]int{-1, -1, 3, -1, -1, -1}}, {[]int{4, 3, 2, 1}, [6]int{-1, -1, -1, 4, -1, -1}},
		{[]int{5, 1, 2, 3, 4}, [6]int{-1, -1, -1, -1, 5, -1}}, {[]int{6, 1, 2, 3, 4, 5}, [6]int{-1, -1, -1, -1, -1, 6}},
		{[]int{2, 3}, [6]int{-1, -1, -1, -1, -1, -1}}, {[]int{1, 3}, [6]int{-1, -1, -1, -1, -1, -1}},
		// With the nails beyond n in, such a word falls as if it had none of their letters, or not.
		{commutator([]int{1}, []int{2}), [6]int{1, 1, -1, -1, -1, -1}},
		{commutator([]int{1}, []int{6}), [6]int{1, -1, -1, -1, -1, -1}},
		{commutator([]int{5}, []int{6}), [6]int{-1, -1, -1, -1, -1, -1}},
		{[]int{6, 1, -6}, [6]int{1, -1, -1, -1, -1, -1}}, {[]int{6, 1, 2, -6}, [6]int{-1, 2, -1, -1, -1, -1}},
		{commutator([]int{1, 2}, []int{3}), [6]int{-1, 2, -1, -1, -1, -1}},
		{commutator([]int{1}, []int{2, 3}), [6]int{1, -1, -1, -1, -1, -1}},
		{commutator([]int{1, 2, 3}, []int{4, 5}), [6]int{-1, -1, 3, -1, -1, -1}},
		{anyOf(1, 3), [6]int{1, 1, 1, -1, -1, -1}}, {anyOf(1, 4), [6]int{1, 1, 1, 1, -1, -1}},
		{anyOf(1, 5), [6]int{1, 1, 1, 1, 1, -1}}, {anyOf(1, 6), [6]int{1, 1, 1, 1, 1, 1}},
		{anyOf(2, 6), [6]int{-1, -1, -1, -1, -1, -1}},
		{twoOfThree(1, 2, 3), [6]int{-1, 2, 2, -1, -1, -1}}, {twoOfThree(1, 2, 4), [6]int{-1, 2, -1, -1, -1, -1}},
		{repeated(1, 64), [6]int{1, -1, -1, -1, -1, -1}}, {repeated(-6, 64), [6]int{-1, -1, -1, -1, -1, -1}},
	}
	for _, k := range known {
		for i, want := range k.by {
			got, ok := impl.HangsBy(k.w, i+1)
			if ok != (want >= 0) || got != max(want, 0) {
				t.Errorf("HangsBy(%v, %d) = %d, %v, not %d", k.w, i+1, got, ok, want)
			}
		}
	}
}

// wantHangsBy returns the number that HangsBy would return, and how many there are.
func wantHangsBy(falls [64]bool, n int) (int, int) {
	found, count := 0, 0
	for k := range n + 1 {
		is := true
		for set := range falls {
			if set < []int{1, 2, 4, 8, 16, 32, 64}[n] && falls[set] != (wantSize(set) >= k) {
				is = false
			}
		}
		if is {
			found, count = k, count+1
		}
	}
	return found, count
}

func TestHangsByOfManyWords(t *testing.T) {
	for _, w := range fallWords() {
		falls := wantFalls(w)
		for n := 1; n <= 6; n++ {
			want, count := wantHangsBy(falls, n)
			got, ok := impl.HangsBy(w, n)
			if count > 1 || ok != (count == 1) || got != want {
				t.Errorf("HangsBy(%v, %d) = %d, %v, not %d of %d", w, n, got, ok, want, count)
			}
		}
	}
}

func TestFallOrderKnown(t *testing.T) {
	known := []struct {
		w    []int
		list []int
		want int
	}{
		{nil, nil, 0}, {nil, []int{1}, 0}, {[]int{1, -1}, []int{1}, 0}, {[]int{1, -1}, nil, 0},
		{[]int{1}, []int{1}, 1}, {[]int{1}, []int{2, 1}, 2}, {[]int{-6}, []int{1, 2, 3, 4, 5, 6}, 6},
		{[]int{1}, []int{1, 2, 3}, 1}, {[]int{1}, []int{1, 1, 1}, 1}, {[]int{1, 2}, []int{1, 1, 2}, 3},
		{[]int{1, 2}, []int{2, 1, 1, 2}, 2}, {[]int{1, 2}, []int{3, 3, 2, 2, 3, 1}, 6},
		{[]int{1, 2, -1, -2}, []int{3, 2, 1}, 2}, {[]int{1, 2, -1, -2}, []int{1}, 1}, {[]int{3, 1, -3}, []int{3, 1}, 2},
		{twoOfThree(1, 2, 3), []int{3, 4, 1, 2}, 3}, {twoOfThree(1, 2, 3), []int{2, 2, 2, 3}, 4},
		{[]int{1}, joined(repeated(6, 5000), []int{1, 2}), 5001}, {nil, repeated(6, 5000), 0},
	}
	for _, k := range known {
		if got, ok := impl.FallOrder(k.w, k.list); !ok || got != k.want {
			t.Errorf("FallOrder(%v, %v) = %d, %v, not %d", k.w, k.list, got, ok, k.want)
		}
	}
}

func TestFallOrderFailsWhereTheWordHangs(t *testing.T) {
	refused := []struct{ w, list []int }{
		{[]int{1}, nil}, {[]int{1}, []int{}}, {[]int{1}, []int{2}}, {[]int{1}, []int{2, 3, 4, 5, 6}},
		{[]int{1, 2}, []int{1}}, {[]int{1, 2}, []int{1, 1, 1}}, {[]int{1, 2, -1, -2}, []int{3, 4}},
		{twoOfThree(1, 2, 3), []int{2, 2, 5}}, {[]int{6}, repeated(1, 5000)}, {repeated(1, 64), []int{6, 5}},
	}
	for _, r := range refused {
		if got, ok := impl.FallOrder(r.w, r.list); ok || got != 0 {
			t.Errorf("FallOrder(%v, %v) = %d, %v", r.w, r.list, got, ok)
		}
	}
}

// A number that is no nail counts wherever it stands, also behind the place where a word falls.
func TestFallOrderRefusesWhatIsNoNail(t *testing.T) {
	for _, bad := range noNails() {
		lists := [][]int{{bad}, {bad, 1}, {1, bad}, {1, 2, bad}, {2, bad, 1}, {1, 2, 3, 4, 5, 6, bad}, {bad, bad}}
		lists = append(lists, joined(repeated(1, 5000), []int{bad}))
		for _, list := range lists {
			for _, w := range [][]int{nil, {}, {1, -1}, {1}, {1, 2}, {1, 2, -1, -2}, {5}, repeated(1, 64)} {
				if got, ok := impl.FallOrder(w, list); ok || got != 0 {
					t.Errorf("FallOrder(%v, %v) = %d, %v", w, list, got, ok)
				}
			}
		}
	}
}

func TestFallOrderOfManyWords(t *testing.T) {
	for _, w := range fallWords() {
		falls := wantFalls(w)
		for _, list := range nailLists() {
			out, want, does := 0, 0, falls[0]
			for i, nail := range list {
				if !inSet(nail, out) {
					out += []int{0, 1, 2, 4, 8, 16, 32}[nail]
				}
				if !does && falls[out] {
					want, does = i+1, true
				}
			}
			if got, ok := impl.FallOrder(w, list); ok != does || got != want {
				t.Errorf("FallOrder(%v, %v) = %d, %v, not %d, %v", w, list, got, ok, want, does)
			}
		}
	}
}
