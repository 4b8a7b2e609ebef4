package tests

import (
	"slices"
	"strings"
	"testing"

	"loop.example/g01206/impl"
)

func TestNailsOf(t *testing.T) {
	known := []struct {
		w   []int
		set int
	}{
		{nil, 0}, {[]int{1}, 1}, {[]int{-1}, 1}, {[]int{6}, 32}, {[]int{-6}, 32}, {[]int{1, -3}, 5}, {[]int{1, 1, 1}, 1},
		{[]int{4, -4}, 8}, {[]int{1, 2, -2, -1}, 3}, {[]int{1, -2, 3, -4, 5, -6}, 63}, {repeated(-5, 64), 16},
		{slices.Repeat([]int{2, -2}, 32), 2},
	}
	for _, k := range known {
		if set, ok := impl.NailsOf(k.w); !ok || set != k.set {
			t.Errorf("NailsOf(%v) = %d, %v", k.w, set, ok)
		}
	}
}

func TestCountLetters(t *testing.T) {
	known := []struct {
		w      []int
		counts [7]int
	}{
		{nil, [7]int{}}, {[]int{1}, [7]int{0, 1}}, {[]int{-1}, [7]int{0, 1}}, {[]int{1, -1}, [7]int{0, 2}},
		{[]int{1, -3, 3}, [7]int{0, 1, 0, 2}}, {[]int{6, -6, 6, 1}, [7]int{0, 1, 0, 0, 0, 0, 3}},
		{[]int{1, -2, 3, -4, 5, -6}, [7]int{0, 1, 1, 1, 1, 1, 1}}, {repeated(-5, 64), [7]int{0, 0, 0, 0, 0, 64}},
	}
	for _, k := range known {
		if counts, ok := impl.CountLetters(k.w); !ok || counts != k.counts {
			t.Errorf("CountLetters(%v) = %v, %v", k.w, counts, ok)
		}
	}
}

func TestNailsAndCountsOfManyWords(t *testing.T) {
	for _, w := range knownWords() {
		wantSet, wantCounts := 0, [7]int{}
		for nail := 1; nail <= 6; nail++ {
			for _, letter := range w {
				if letter == nail || letter == -nail {
					wantCounts[nail]++
				}
			}
			if wantCounts[nail] > 0 {
				wantSet += []int{0, 1, 2, 4, 8, 16, 32}[nail]
			}
		}
		if set, ok := impl.NailsOf(w); !ok || set != wantSet {
			t.Errorf("NailsOf(%v) = %d, %v", w, set, ok)
		}
		if counts, ok := impl.CountLetters(w); !ok || counts != wantCounts {
			t.Errorf("CountLetters(%v) = %v, %v", w, counts, ok)
		}
	}
}

// wantLess checks a list of words that are in ascending order.
func wantLess(t *testing.T, ascending [][]int) {
	t.Helper()
	for i, u := range ascending {
		for j, v := range ascending {
			if less, ok := impl.LessWord(u, v); !ok || less != (i < j) {
				t.Fatalf("LessWord(%v, %v) = %v, %v", u, v, less, ok)
			}
		}
	}
}

func TestLessWord(t *testing.T) {
	wantLess(t, [][]int{{1}, {-1}, {2}, {-2}, {3}, {-3}, {4}, {-4}, {5}, {-5}, {6}, {-6}})
	wantLess(t, [][]int{
		nil, {1}, {-6}, {1, 1}, {1, -1}, {1, 2}, {1, -6}, {-1, 1}, {-1, -1}, {2, 1}, {-6, -6}, {1, -1, 1}, {1, 2, 1},
		{1, 2, -1}, {2, -2, 1}, repeated(1, 63), repeated(-6, 63), repeated(1, 64),
		joined(repeated(1, 63), []int{-1}), joined([]int{-1}, repeated(1, 63)), repeated(-6, 64),
	})
	wantLess(t, shortWords(6, 2))
	wantLess(t, shortWords(2, 4))
}

func TestLessWordOfVariedWords(t *testing.T) {
	words := variedWords()
	for _, u := range words {
		for _, v := range words {
			want := len(u) < len(v) || len(u) == len(v) && orderText(u) < orderText(v)
			if less, ok := impl.LessWord(u, v); !ok || less != want {
				t.Fatalf("LessWord(%v, %v) = %v, %v", u, v, less, ok)
			}
		}
	}
}

func TestWordTextAndParseWordKnown(t *testing.T) {
	known := []struct {
		w    []int
		text string
	}{
		{nil, ""}, {[]int{1}, "a"}, {[]int{-1}, "A"}, {[]int{1, -2}, "aB"}, {[]int{1, -1}, "aA"},
		{[]int{1, 2, 3, 4, 5, 6, -1, -2, -3, -4, -5, -6}, "abcdefABCDEF"}, {repeated(6, 64), strings.Repeat("f", 64)},
		{repeated(-1, 64), strings.Repeat("A", 64)}, {slices.Repeat([]int{3, -3}, 32), strings.Repeat("cC", 32)},
	}
	for _, k := range known {
		if text, ok := impl.WordText(k.w); !ok || text != k.text {
			t.Errorf("WordText(%v) = %q, %v", k.w, text, ok)
		}
		got, ok := impl.ParseWord(k.text)
		wantWord(t, got, ok, k.w, "ParseWord", k.text)
	}
}

func TestWordTextAndParseWordAreInverse(t *testing.T) {
	for _, w := range append(knownWords(), shortWords(6, 2)...) {
		want := []byte{}
		for _, letter := range w {
			want = append(want, letterSign(letter))
		}
		text, ok := impl.WordText(w)
		if !ok || text != string(want) {
			t.Errorf("WordText(%v) = %q, %v", w, text, ok)
		}
		got, ok := impl.ParseWord(text)
		wantWord(t, got, ok, w, "ParseWord", text)
	}
}

func TestParseWordTakesOnlyLettersAtEachPlace(t *testing.T) {
	for c := range 256 {
		for place := range 3 {
			text, want := []byte("aBc"), []int{1, -2, 3}
			text[place] = byte(c)
			want[place] = strings.IndexByte("FEDCBA abcdef", byte(c)) - 6
			got, ok := impl.ParseWord(string(text))
			if want[place] < -6 || c == ' ' {
				wantNone(t, got, ok, "ParseWord", string(text))
			} else {
				wantWord(t, got, ok, want, "ParseWord", string(text))
			}
		}
	}
}

func TestParseWordRefuses(t *testing.T) {
	refused := []string{
		" ", "-", "g", "G", "@", "`", "aG", "ag", "a b", " a", "a ", "a\n", "1", "é", "\x00", "\xff", "?", "a?",
		strings.Repeat("a", impl.MaxWord+1), strings.Repeat("aA", 33), strings.Repeat("f", 5000),
		strings.Repeat("a", impl.MaxWord-1) + "g", strings.Repeat("a", impl.MaxWord-1) + "é", "a\xe1", "\xc1",
	}
	for _, s := range refused {
		got, ok := impl.ParseWord(s)
		wantNone(t, got, ok, "ParseWord", s)
	}
}
