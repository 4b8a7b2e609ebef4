package tests

import (
	"math"
	"slices"
	"testing"

	"loop.example/g01206/impl"
)

func TestCoreOfKnown(t *testing.T) {
	known := []struct{ w, core, by []int }{
		{nil, nil, nil}, {[]int{1, -1}, nil, nil}, {[]int{1}, []int{1}, nil}, {[]int{1, 2}, []int{1, 2}, nil},
		{[]int{1, 2, -1}, []int{2}, []int{1}}, {[]int{1, 2, 3, -2, -1}, []int{3}, []int{1, 2}},
		{[]int{1, 2, 3, -1}, []int{2, 3}, []int{1}}, {[]int{1, 2, 2, -1}, []int{2, 2}, []int{1}},
		{[]int{1, 2, -2, 3, -1}, []int{3}, []int{1}}, {[]int{1, 1, -1}, []int{1}, nil},
		{[]int{5, -5, 1, 2, -1}, []int{2}, []int{1}}, {[]int{1, 2, -1, -2}, []int{1, 2, -1, -2}, nil},
		{[]int{1, 2, 1, 3, -1}, []int{2, 1, 3}, []int{1}}, {repeated(1, 64), repeated(1, 64), nil},
		{joined(repeated(1, 31), []int{2, 3}, repeated(-1, 31)), []int{2, 3}, repeated(1, 31)},
		{joined(repeated(1, 31), []int{2}, repeated(-1, 31)), []int{2}, repeated(1, 31)},
		{joined(repeated(1, 32), repeated(-1, 32)), nil, nil},
	}
	for _, k := range known {
		core, by, ok := impl.CoreOf(k.w)
		wantWord(t, core, ok, k.core, "core of", k.w)
		wantWord(t, by, ok, k.by, "conjugate by, of", k.w)
	}
}

func TestWordsAreConjugatesOfTheirCores(t *testing.T) {
	for _, w := range knownWords() {
		core, by, ok := impl.CoreOf(w)
		wantWord(t, joined(by, core, opposite(by)), ok, wantReduced(w), "the conjugate of the core, as it stands", w)
		if is, fine := impl.IsReduced(core); !fine || !is || !isCyclic(core) {
			t.Errorf("core %v of %v is not cyclic", core, w)
		}
		conjugate, ok := impl.ConjugateWord(by, core)
		wantWord(t, conjugate, ok, wantReduced(w), "ConjugateWord of the core", w)
		again, none, ok := impl.CoreOf(core)
		wantWord(t, again, ok, core, "the core of a core", core)
		wantWord(t, none, ok, nil, "by which a core is the conjugate", core)
	}
}

func TestTurnWord(t *testing.T) {
	for _, w := range knownWords() {
		for k := range max(len(w), 1) {
			want := []int{}
			for i := range w {
				want = append(want, w[(i+k)%len(w)])
			}
			got, ok := impl.TurnWord(w, k)
			wantWord(t, got, ok, want, "TurnWord", w, k)
		}
		for _, k := range []int{-1, max(len(w), 1), len(w) + 1, -len(w) - 1, impl.MaxWord, math.MaxInt, math.MinInt} {
			got, ok := impl.TurnWord(w, k)
			wantNone(t, got, ok, "TurnWord", w, k)
		}
	}
	got, ok := impl.TurnWord([]int{1, 2, -1}, 2)
	wantWord(t, got, ok, []int{-1, 1, 2}, "not reduced")
	for _, k := range []int{0, 1, -1} {
		got, ok := impl.TurnWord(nil, k)
		if ok != (k == 0) || len(got) != 0 {
			t.Errorf("TurnWord of the empty word by %d: %v, %v", k, got, ok)
		}
	}
}

func TestLeastTurnKnown(t *testing.T) {
	known := []struct{ w, least []int }{
		{nil, nil}, {[]int{3, -3}, nil}, {[]int{2, 1}, []int{1, 2}}, {[]int{-1, 2}, []int{-1, 2}},
		{[]int{2, -1}, []int{-1, 2}}, {[]int{-2, 2, 1, 2, -1}, []int{2}}, {[]int{3, 2, 1}, []int{1, 3, 2}},
		{[]int{-1, 2, 1, 3}, []int{1, 3, -1, 2}}, {[]int{2, 1, 2, 1, 1}, []int{1, 1, 2, 1, 2}},
		{[]int{-2, 2, -6}, []int{-6}}, {[]int{-2, -1, -2}, []int{-1, -2, -2}}, {[]int{2, -2, -2, -1}, []int{-1, -2}},
		{[]int{1, 3, 1, 2}, []int{1, 2, 1, 3}}, {[]int{-6, 6, -5, 5, 4}, []int{4}}, {[]int{6, -5, 6, 5}, []int{5, 6, -5, 6}},
		{joined(repeated(2, 63), []int{1}), joined([]int{1}, repeated(2, 63))},
		{joined(repeated(1, 62), []int{-2, 1}), joined(repeated(1, 63), []int{-2})},
	}
	for _, k := range known {
		got, ok := impl.LeastTurn(k.w)
		wantWord(t, got, ok, k.least, "LeastTurn", k.w)
	}
}

func TestLeastTurnIsTheLeastOfAll(t *testing.T) {
	for _, w := range knownWords() {
		least, ok := impl.LeastTurn(w)
		core, _, _ := impl.CoreOf(w)
		if !ok || len(least) != len(core) {
			t.Fatalf("LeastTurn(%v) = %v, %v", w, least, ok)
		}
		isTurn := len(core) == 0
		for k := range core {
			turn := joined(core[k:], core[:k])
			isTurn = isTurn || slices.Equal(turn, least)
			if orderText(turn) < orderText(least) {
				t.Errorf("the turn %v is before the LeastTurn %v", turn, least)
			}
		}
		if !isTurn {
			t.Errorf("LeastTurn(%v) = %v is no turn of the core", w, least)
		}
	}
}

func TestConjugatesHaveTheSameLeastTurn(t *testing.T) {
	keys := append(shortWords(2, 3), shortWords(6, 1)...)
	for _, w := range append(shortWords(2, 4), variedWords()...) {
		least, _ := impl.LeastTurn(w)
		for _, g := range keys {
			conjugate, ok := impl.ConjugateWord(g, w)
			if !ok {
				continue
			}
			got, ok := impl.LeastTurn(conjugate)
			wantWord(t, got, ok, least, "LeastTurn of the conjugate of", w, "by", g)
			if are, ok := impl.AreConjugate(w, conjugate); !ok || !are {
				t.Errorf("AreConjugate(%v, %v) = %v, %v", w, conjugate, are, ok)
			}
		}
	}
}

// Words of at most four letters are conjugates by words of at most four letters, if at all.
func TestAreConjugateExactly(t *testing.T) {
	words := shortWords(2, 4)
	for _, u := range words {
		conjugates := map[string]bool{}
		for _, g := range words {
			conjugates[orderText(wantReduced(joined(g, u, opposite(g))))] = true
		}
		for _, v := range words {
			are, ok := impl.AreConjugate(u, v)
			if want := conjugates[orderText(wantReduced(v))]; !ok || are != want {
				t.Fatalf("AreConjugate(%v, %v) = %v, %v, not %v", u, v, are, ok, want)
			}
		}
	}
}

func TestAreConjugateKnown(t *testing.T) {
	known := []struct {
		u, v []int
		are  bool
	}{
		{nil, nil, true}, {nil, []int{1, -1}, true}, {nil, []int{1}, false}, {[]int{1}, []int{-1}, false},
		{[]int{1}, []int{2}, false}, {[]int{1, 1}, []int{1}, false}, {[]int{1, 1, 2, 2}, []int{1, 2, 1, 2}, false},
		{[]int{1, 2, 3}, []int{3, 1, 2}, true}, {[]int{1, 2, 3}, []int{1, 3, 2}, false},
		{[]int{1, 2, -1, -2}, []int{2, 1, -2, -1}, false}, {[]int{1, 2, -1, -2}, []int{2, -1, -2, 1}, true},
		{repeated(1, 64), repeated(1, 64), true}, {repeated(1, 64), repeated(-1, 64), false},
		{joined(repeated(1, 31), []int{2}, repeated(-1, 31)), []int{2}, true},
	}
	for _, k := range known {
		if are, ok := impl.AreConjugate(k.u, k.v); !ok || are != k.are {
			t.Errorf("AreConjugate(%v, %v) = %v, %v", k.u, k.v, are, ok)
		}
	}
}
