package tests

import (
	"slices"
	"testing"

	"loop.example/g01206/impl"
)

// refuseNoWords checks that functions fail if their first list is no word, whatever the second.
func refuseNoWords(t *testing.T, calls []wordCall, second ...[]int) {
	t.Helper()
	for _, c := range calls {
		for _, w := range noWords() {
			for _, v := range second {
				if got := c.call(w, v); !got.failed {
					t.Errorf("%s(%v, %v) = %s", c.name, w, v, got.text)
				}
			}
		}
	}
}

// exchanged returns the calls with their two lists exchanged.
func exchanged(calls []wordCall) []wordCall {
	turned := []wordCall{}
	for _, c := range calls {
		turned = append(turned, wordCall{c.name, func(u, v []int) outcome { return c.call(v, u) }})
	}
	return turned
}

// wordsOfAllKinds are valid words and others, which stand beside those that are none.
func wordsOfAllKinds() [][]int {
	return append(noWords(), nil, []int{1}, []int{1, -1}, repeated(1, impl.MaxWord), slices.Repeat([]int{1, -1}, 32))
}

func TestFunctionsOfOneWordRefuseWhatIsNone(t *testing.T) {
	refuseNoWords(t, oneWordCalls(), nil)
	for _, w := range noWords() {
		for n := -9; n <= 9; n++ {
			got, ok := impl.PowerWord(w, n)
			wantNone(t, got, ok, "PowerWord", w, n)
			got, ok = impl.TurnWord(w, n)
			wantNone(t, got, ok, "TurnWord", w, n)
		}
	}
}

func TestFunctionsOfTwoWordsRefuseWhatIsNone(t *testing.T) {
	refuseNoWords(t, twoWordCalls(), wordsOfAllKinds()...)
	refuseNoWords(t, exchanged(twoWordCalls()), wordsOfAllKinds()...)
}

// takeNilAsEmpty checks that a nil slice and an empty one are the same word.
func takeNilAsEmpty(t *testing.T, calls []wordCall) {
	t.Helper()
	for _, c := range calls {
		for _, w := range [][]int{nil, {1}, {2, -2}} {
			if a, b := c.call(nil, w).text, c.call([]int{}, w).text; a != b {
				t.Errorf("%s of nil and of []: %s and %s", c.name, a, b)
			}
			if a, b := c.call(w, nil).text, c.call(w, []int{}).text; a != b {
				t.Errorf("%s with nil and with []: %s and %s", c.name, a, b)
			}
		}
	}
}

func TestNilIsTheEmptyWord(t *testing.T) {
	takeNilAsEmpty(t, append(oneWordCalls(), twoWordCalls()...))
}

// wordPairs are arguments of which each is in the midst of a longer slice, with spare room.
func wordPairs() [][2][]int {
	words := [][]int{
		{}, {1}, {1, -1}, {1, 2, -1}, {2, 1, -2, -1}, {2, 1}, {-1, -2, 2, 3, 1}, {0}, {7, 1}, {3, 2, 1, 5, -5, -2, -3},
		repeated(1, impl.MaxWord), slices.Repeat([]int{2, -2}, 32), repeated(2, impl.MaxWord+1), repeated(4, 32),
		joined(repeated(1, 31), []int{2, 1}, repeated(-1, 31)),
	}
	pairs := [][2][]int{}
	for _, u := range words {
		for _, v := range words {
			pairs = append(pairs, [2][]int{u, v})
		}
	}
	return pairs
}

// withRoom returns a word in the midst of a longer slice of other numbers, and this slice.
func withRoom(w []int) ([]int, []int) {
	room := joined([]int{5, 5, 5}, w, repeated(5, 80))
	return room[3 : 3+len(w)], room
}

// leaveAlone checks that functions change no argument, and that an answer shares no memory with
// an argument, with another one or with a later one.
func leaveAlone(t *testing.T, calls []wordCall, pairs [][2][]int) {
	t.Helper()
	for _, c := range calls {
		for _, pair := range pairs {
			u, roomOfU := withRoom(pair[0])
			v, roomOfV := withRoom(pair[1])
			beforeU, beforeV := slices.Clone(roomOfU), slices.Clone(roomOfV)
			first := c.call(u, v)
			text := first.text
			// Whatever is done to an answer, and to the room behind it, stays there.
			for k, list := range first.lists {
				rest := outcomeOf(first.lists[k+1:])
				spoil(list)
				if outcomeOf(first.lists[k+1:]).text != rest.text {
					t.Errorf("%s(%v, %v): results share memory", c.name, u, v)
				}
			}
			if !slices.Equal(roomOfU, beforeU) || !slices.Equal(roomOfV, beforeV) {
				t.Fatalf("%s(%v, %v) changed an argument, or shares its memory", c.name, pair[0], pair[1])
			}
			if again := c.call(u, v).text; again != text {
				t.Errorf("%s(%v, %v) = %s, and then %s", c.name, u, v, text, again)
			}
		}
	}
}

func TestFunctionsOfWordsLeaveArgumentsAlone(t *testing.T) {
	leaveAlone(t, append(oneWordCalls(), twoWordCalls()...), wordPairs())
}

// takeSharedMemory checks functions whose arguments are parts of a list of seven numbers: all of
// it, given twice, or parts that overlap or are beside each other.
func takeSharedMemory(t *testing.T, calls []wordCall, list []int) {
	t.Helper()
	room := joined(list, repeated(5, 80))
	before := slices.Clone(room)
	for _, c := range calls {
		for _, ends := range [][4]int{{0, 7, 0, 7}, {0, 5, 2, 7}, {2, 7, 0, 5}, {0, 3, 3, 7}, {3, 7, 0, 3}, {0, 0, 0, 7}} {
			u, v := room[ends[0]:ends[1]], room[ends[2]:ends[3]]
			got, want := c.call(u, v).text, c.call(slices.Clone(u), slices.Clone(v)).text
			if got != want || !slices.Equal(room, before) {
				t.Errorf("%s(%v, %v) = %s, not %s", c.name, u, v, got, want)
			}
		}
	}
}

func TestArgumentsMayShareMemory(t *testing.T) {
	takeSharedMemory(t, twoWordCalls(), []int{1, 2, -2, 3, -1, 4, 4})
}

// spoil changes all numbers of a list, and those in the room behind it.
func spoil(list []int) {
	room := list[:cap(list)]
	for i := range room {
		room[i] = 99
	}
}

func TestParsedWordsAreTheirOwn(t *testing.T) {
	for _, s := range []string{"", "a", "aBcA", "g"} {
		first, fine := impl.ParseWord(s)
		kept := slices.Clone(first)
		spoil(first)
		second, ok := impl.ParseWord(s)
		if fine != ok || !slices.Equal(second, kept) {
			t.Errorf("ParseWord(%q) = %v, and then %v", s, kept, second)
		}
	}
}
