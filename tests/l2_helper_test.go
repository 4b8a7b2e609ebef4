package tests

import (
	"fmt"
	"math"
	"reflect"
	"slices"
	"strings"
	"testing"

	"loop.example/g01206/impl"
)

// repeated returns a word of one letter, size times.
func repeated(letter int, size int) []int {
	return slices.Repeat([]int{letter}, size)
}

// joined returns lists one behind the other, as new memory.
func joined(lists ...[]int) []int {
	return slices.Concat(append([][]int{{}}, lists...)...)
}

// opposite returns the inverse of a word, made from its end.
func opposite(w []int) []int {
	inverse := []int{}
	for _, letter := range slices.Backward(w) {
		inverse = append(inverse, -letter)
	}
	return inverse
}

// wantReduced takes out the last letter and opposite beside it, until there are none: another
// order than that of a program that reads a word from its start.
func wantReduced(w []int) []int {
	left := joined(w)
	for i := len(left) - 2; i >= 0; i-- {
		if left[i] == -left[i+1] {
			left = joined(left[:i], left[i+2:])
			i = len(left) - 1
		}
	}
	return left
}

// orderText writes a word so that texts of words of one length are ordered as these are.
func orderText(w []int) string {
	var text strings.Builder
	for _, letter := range w {
		place := strings.Index("aAbBcCdDeEfF", string(letterSign(letter)))
		text.WriteByte(byte('a' + place))
	}
	return text.String()
}

// letterSign is the sign of a letter, from the list of all of them.
func letterSign(letter int) byte {
	return "FEDCBA abcdef"[letter+6]
}

// isCyclic tells of a reduced word whether its ends are not opposites.
func isCyclic(w []int) bool {
	return len(w) == 0 || w[0] != -w[len(w)-1]
}

// shortWords returns all words of the nails 1..n with at most size letters, in their order.
func shortWords(n int, size int) [][]int {
	words := [][]int{{}}
	start := 0
	for range size {
		end := len(words)
		for _, w := range words[start:end] {
			for nail := 1; nail <= n; nail++ {
				words = append(words, joined(w, []int{nail}), joined(w, []int{-nail}))
			}
		}
		start = end
	}
	return words
}

// variedWords returns words of all lengths and nails; few nails make many letters vanish.
func variedWords() [][]int {
	words := [][]int{}
	state := 12345
	for round := range 4 * (impl.MaxWord + 1) {
		nails := 1 + round%impl.MaxNails
		w := make([]int, round%(impl.MaxWord+1))
		for i := range w {
			state = (state*1103515245 + 12345) % (1 << 31)
			w[i] = 1 + state>>16%nails
			if state>>8&1 == 1 {
				w[i] = -w[i]
			}
		}
		words = append(words, w)
	}
	return words
}

// knownWords returns the words that tests of all functions share: all short ones of two nails,
// varied ones, those that vanish from the inside out, and those of MaxWord letters.
func knownWords() [][]int {
	words := append(shortWords(2, 5), variedWords()...)
	for size := range 33 {
		half := variedWords()[impl.MaxWord*2+size]
		half = half[:min(len(half), size)]
		words = append(words, joined(half, opposite(half)), joined(repeated(2, size), repeated(-2, size)))
	}
	return append(words, repeated(1, impl.MaxWord), repeated(-6, impl.MaxWord), slices.Repeat([]int{1, 2, -1, -2}, 16))
}

// noWords returns lists that are no words.
func noWords() [][]int {
	lists := [][]int{
		{0}, {7}, {-7}, {8}, {math.MaxInt}, {math.MinInt}, {math.MinInt + 1}, {1, 0}, {0, 1}, {1, 2, 0, 3}, {1, -1, 7},
		{7, -7}, {0, 0}, {math.MinInt, math.MinInt}, {math.MaxInt, -math.MaxInt}, {-7, 1}, {1 << 32}, {1<<32 + 1},
		{256}, {257}, {-255}, make([]int, 64), make([]int, 65),
		repeated(1, impl.MaxWord+1), repeated(-6, impl.MaxWord+1), slices.Repeat([]int{1, -1}, 33),
		joined(repeated(3, impl.MaxWord), []int{-3}), repeated(2, 5000), repeated(0, 5000),
	}
	for place := range impl.MaxWord {
		w := repeated(1, impl.MaxWord)
		w[place] = 7 * (place%3 - 1)
		lists = append(lists, w)
	}
	return lists
}

// wantWord checks the result of a function of words.
func wantWord(t *testing.T, got []int, ok bool, want []int, call ...any) {
	t.Helper()
	if !ok || !slices.Equal(got, want) {
		t.Errorf("%v = %v, %v, not %v", call, got, ok, want)
	}
}

// wantNone checks that a function of words has failed.
func wantNone(t *testing.T, got []int, ok bool, call ...any) {
	t.Helper()
	if ok || len(got) != 0 {
		t.Errorf("%v = %v, %v, although it fails", call, got, ok)
	}
}

// outcome is what a function answers: its lists, all of its results as a text, and whether they
// are zero values alone, as those of a failed call are.
type outcome struct {
	lists  [][]int
	text   string
	failed bool
}

func outcomeOf(results ...any) outcome {
	o := outcome{text: fmt.Sprintf("%v", results), failed: true}
	for _, r := range results {
		list, isList := r.([]int)
		if isList {
			o.lists = append(o.lists, list)
		}
		o.failed = o.failed && (isList && len(list) == 0 || reflect.ValueOf(r).IsZero())
	}
	return o
}

// wordCall calls a function of two words, or of the first one alone.
type wordCall struct {
	name string
	call func(u []int, v []int) outcome
}

func oneWordCalls() []wordCall {
	return []wordCall{
		{"IsReduced", func(u, _ []int) outcome { a, ok := impl.IsReduced(u); return outcomeOf(a, ok) }},
		{"ReduceWord", func(u, _ []int) outcome { a, ok := impl.ReduceWord(u); return outcomeOf(a, ok) }},
		{"InverseWord", func(u, _ []int) outcome { a, ok := impl.InverseWord(u); return outcomeOf(a, ok) }},
		{"PowerWord 1", func(u, _ []int) outcome { a, ok := impl.PowerWord(u, 1); return outcomeOf(a, ok) }},
		{"PowerWord -1", func(u, _ []int) outcome { a, ok := impl.PowerWord(u, -1); return outcomeOf(a, ok) }},
		{"PowerWord 3", func(u, _ []int) outcome { a, ok := impl.PowerWord(u, 3); return outcomeOf(a, ok) }},
		{"PowerWord 0", func(u, _ []int) outcome { a, ok := impl.PowerWord(u, 0); return outcomeOf(a, ok) }},
		{"CoreOf", func(u, _ []int) outcome { a, b, ok := impl.CoreOf(u); return outcomeOf(a, b, ok) }},
		{"TurnWord 0", func(u, _ []int) outcome { a, ok := impl.TurnWord(u, 0); return outcomeOf(a, ok) }},
		{"TurnWord 1", func(u, _ []int) outcome { a, ok := impl.TurnWord(u, 1); return outcomeOf(a, ok) }},
		{"LeastTurn", func(u, _ []int) outcome { a, ok := impl.LeastTurn(u); return outcomeOf(a, ok) }},
		{"NailsOf", func(u, _ []int) outcome { a, ok := impl.NailsOf(u); return outcomeOf(a, ok) }},
		{"CountLetters", func(u, _ []int) outcome { a, ok := impl.CountLetters(u); return outcomeOf(a, ok) }},
		{"WordText", func(u, _ []int) outcome { a, ok := impl.WordText(u); return outcomeOf(a, ok) }},
	}
}

func twoWordCalls() []wordCall {
	return []wordCall{
		{"JoinWords", func(u, v []int) outcome { a, ok := impl.JoinWords(u, v); return outcomeOf(a, ok) }},
		{"ConjugateWord", func(u, v []int) outcome { a, ok := impl.ConjugateWord(u, v); return outcomeOf(a, ok) }},
		{"AreConjugate", func(u, v []int) outcome { a, ok := impl.AreConjugate(u, v); return outcomeOf(a, ok) }},
		{"LessWord", func(u, v []int) outcome { a, ok := impl.LessWord(u, v); return outcomeOf(a, ok) }},
	}
}
