package tests

import (
	"slices"
	"strings"
	"testing"

	"loop.example/g01206/impl"
)

// Each step of the grid alone, at the end of a way on which nothing is read: a letter is read above
// a nail, and nowhere else.
func TestReadPathOfEachStep(t *testing.T) {
	read := 0
	for x := -12; x <= 12; x++ {
		for y := -12; y <= 12; y++ {
			for _, step := range []string{"l", "r", "u", "d"} {
				s := wayTo(x, y) + step
				want := []int{}
				switch {
				case step == "r" && y >= 1 && x >= 1 && x <= 6:
					want = []int{x}
				case step == "l" && y >= 1 && x >= 2 && x <= 7:
					want = []int{1 - x}
				}
				if !wantPath(s) {
					continue
				}
				w, ok := impl.ReadPath(s)
				wantWord(t, w, ok, want, "ReadPath", s)
				read += len(w)
			}
		}
	}
	if read != 2*6*12 {
		t.Errorf("%d steps are read", read)
	}
}

func TestReadPathKnown(t *testing.T) {
	for s, text := range map[string]string{
		"": "", "u": "", "rrrrrrrr": "", "drrrrrrrr": "", "ur": "", "urr": "a", "urrr": "ab", "rur": "a", "rurl": "aA", "rulr": "", "rrul": "A", "rrulr": "Aa",
		"urrrrrrr": "abcdef", "urrrrrrrr": "abcdef", "urrrrrrrrrrrr": "abcdef", "urrrrrrrl": "abcdefF", "urrrrrrrrl": "abcdef", "urrrrrrrrll": "abcdefF",
		"ulrrrrr": "abc", "ulllll": "", wayTo(7, 1) + "llllll": "FEDCBA", wayTo(8, 1) + "llllllll": "FEDCBA", wayTo(6, 12) + "r": "f", wayTo(7, 12) + "l": "F",
		wayTo(6, 0) + "rl": "", wayTo(6, -1) + "rl": "", wayTo(6, -12) + "rl": "", wayTo(1, 12) + "rrlrl": "abBbB", "rudrurdrul": "bC",
		wayTo(7, 1) + "rl": "", wayTo(0, 1) + "rl": "", wayTo(0, 12) + "lr": "", "ruurddl": "a", "rrruulddr": "B", "rddrruuuulldd": "BA", "urdrur": "b",
		long("rurdll", 64): strings.Repeat("a", 64), long("rruldl", 64): strings.Repeat("A", 64), "ru" + long("rl", 32): strings.Repeat("aA", 32),
		"rrrrrru" + long("rl", 31) + "r": strings.Repeat("fF", 31) + "f", "ru" + long("rl", 32) + long("d", 12): strings.Repeat("aA", 32),
	} {
		w, ok := impl.ReadPath(s)
		wantWord(t, w, ok, wordOf(text), "ReadPath", s)
	}
}

// Words are not reduced, and long if they have more than MaxWord letters, reduced or not.
func TestReadPathOfLongWords(t *testing.T) {
	for _, s := range []string{
		"ru" + long("rl", 32) + "r", "rru" + long("lr", 32) + "l", "ru" + long("rl", 199), long("rurdll", 65), long("rruldl", 66), long("rurdll", 64) + "rur",
		"ru" + long("rdlu", 65), "urrrrrrr" + long("lr", 30), "ru" + long("rrrrrrllllll", 33), "ru" + long("rrrrrrllllll", 5) + "rrrrr",
	} {
		w, ok := impl.ReadPath(s)
		wantNone(t, w, ok, "ReadPath", s)
	}
	for _, s := range []string{"ru" + long("rl", 32), "ru" + long("rdlu", 64), "ru" + long("rrrrrrllllll", 5) + "rrrr", "ru" + long("rl", 32) + long("udlr", 60)} {
		w, ok := impl.ReadPath(s)
		wantWord(t, w, ok, wantLetters(s), "ReadPath", s)
		if len(w) != impl.MaxWord {
			t.Errorf("ReadPath(%q) has %d letters", s, len(w))
		}
	}
}

func TestReadPathOfKnownPaths(t *testing.T) {
	tooMany := 0
	for _, s := range knownPaths() {
		w, ok := impl.ReadPath(s)
		want := wantLetters(s)
		if len(want) > impl.MaxWord {
			tooMany++
			wantNone(t, w, ok, "ReadPath", s)
			continue
		}
		wantWord(t, w, ok, want, "ReadPath", s)
	}
	if tooMany < 20 {
		t.Errorf("%d long words", tooMany)
	}
}

func TestLoopPathKnown(t *testing.T) {
	for text, want := range map[string]string{
		"": "", "a": "rurdll", "A": "rruldl", "b": "rrurdlll", "B": "rrruldll", "c": "rrrurdllll", "C": "rrrruldlll", "d": "rrrrurdlllll", "D": "rrrrruldllll",
		"e": "rrrrrurdllllll", "E": "rrrrrruldlllll", "f": "rrrrrrurdlllllll", "F": "rrrrrrruldllllll",
		"aA": "rurdll" + "rruldl", "Aa": "rruldl" + "rurdll", "aa": "rurdllrurdll", "abAB": "rurdll" + "rrurdlll" + "rruldl" + "rrruldll", "fA": "rrrrrrurdlllllll" + "rruldl",
	} {
		s, ok := impl.LoopPath(wordOf(text))
		wantText(t, s, ok, want, "LoopPath", text)
	}
}

// A loop of the nail n has 2n + 4 steps.
func TestLoopPathIsAtMostMaxPath(t *testing.T) {
	for _, c := range []struct {
		w    []int
		size int
	}{
		{repeated(6, 25), 400}, {repeated(-6, 25), 400}, {repeated(1, 64), 384}, {repeated(-1, 64), 384}, {joined(repeated(1, 56), repeated(2, 8)), 400},
		{joined(repeated(-6, 24), []int{1, 3}), 400}, {joined([]int{3, -1}, repeated(6, 24)), 400}, {joined(repeated(6, 24), []int{-5}), 398}, {slices.Repeat([]int{1, 2, 3, 4, 5, 6}, 6), 396},
		{repeated(2, 50), 400}, {repeated(-3, 40), 400}, {repeated(4, 33), 396}, {repeated(5, 28), 392},
	} {
		s, ok := impl.LoopPath(c.w)
		want := ""
		for _, letter := range c.w {
			want += wantLoop(letter)
		}
		wantText(t, s, ok, want, "LoopPath", c.w)
		if len(s) != c.size {
			t.Errorf("LoopPath(%v) has %d steps", c.w, len(s))
		}
	}
	for _, w := range [][]int{
		repeated(6, 26), joined(repeated(6, 25), []int{1}), joined([]int{-1}, repeated(6, 25)), joined(repeated(6, 24), []int{1, 4}), joined(repeated(-6, 24), []int{2, -3}),
		joined(repeated(1, 55), repeated(2, 9)), repeated(2, 51), repeated(-3, 41), repeated(4, 34), repeated(5, 29), repeated(-6, 64), repeated(2, 64),
		joined(slices.Repeat([]int{1, 2, 3, 4, 5, 6}, 6), []int{-1}), slices.Repeat([]int{6, -6}, 13),
	} {
		s, ok := impl.LoopPath(w)
		wantNoText(t, s, ok, "LoopPath", w)
	}
}

// Words are loops that are closed and read as these words, with the windings of chapter 8.
func TestLoopsAreReadAsTheirWords(t *testing.T) {
	loops, others := 0, 0
	for _, w := range append(knownWords(), shortWords(6, 2)...) {
		size := 0
		for _, letter := range w {
			size += 2*max(letter, -letter) + 4
		}
		s, ok := impl.LoopPath(w)
		if size > impl.MaxPath {
			others++
			wantNoText(t, s, ok, "LoopPath", w)
			continue
		}
		loops++
		closed, _ := impl.IsClosed(s)
		read, fine := impl.ReadPath(s)
		if !ok || !closed || !fine || len(s) != size || !slices.Equal(read, w) {
			t.Errorf("LoopPath(%v) = %q, %v: %v, %v", w, s, ok, closed, read)
		}
		windings, _ := impl.WindingsOf(w)
		for n := 1; n <= 6; n++ {
			turns, ok := impl.TurnsAround(s, n)
			checkNumber(t, turns, ok, windings[n], "TurnsAround", s, n)
		}
	}
	if loops < 1000 || others < 50 {
		t.Error(loops, "loops,", others, "others")
	}
}

func TestTurnsAroundOfLongWords(t *testing.T) {
	for _, c := range []struct {
		path  string
		turns [6]int
	}{
		{"ru" + long("rdlu", 99) + "r", [6]int{100}}, {"rru" + long("ldru", 99) + "l", [6]int{-100}}, {"ru" + long("rl", 199), [6]int{}}, {"rrru" + long("rl", 197) + "r", [6]int{0, 0, 1}},
		{wayTo(6, 1) + long("rdlu", 98) + "r", [6]int{0, 0, 0, 0, 0, 99}}, {wayTo(7, 1) + long("ldru", 98), [6]int{0, 0, 0, 0, 0, -98}},
		{long("rurdll", 65), [6]int{65}}, {long("rruldl", 66), [6]int{-66}}, {"u" + long("rrrdllul", 49), [6]int{49, 49}}, {"urrrr" + long("ddlllluurrrr", 32), [6]int{33, 33, 33}},
		{"ur" + long("rrrrrrdllllllu", 28), [6]int{28, 28, 28, 28, 28, 28}}, {long("drrrrrrruullllllld", 22), [6]int{-22, -22, -22, -22, -22, -22}},
		{wayTo(7, 1) + long("lllllldrrrrrru", 27), [6]int{-27, -27, -27, -27, -27, -27}}, {"rrrru" + long("rdlu", 30) + long("rrdllu", 40), [6]int{0, 0, 0, 70, 40}},
	} {
		for k, want := range c.turns {
			turns, ok := impl.TurnsAround(c.path, k+1)
			checkNumber(t, turns, ok, want, "TurnsAround", c.path, k+1)
		}
	}
}

func TestTurnsAroundAreWindings(t *testing.T) {
	windingsTold := 0
	for _, s := range knownPaths() {
		w, short := impl.ReadPath(s)
		windings, _ := impl.WindingsOf(w)
		for n := 1; n <= 6; n++ {
			turns, ok := impl.TurnsAround(s, n)
			checkNumber(t, turns, ok, wantTurns(s, n), "TurnsAround", s, n)
			if short && turns != windings[n] {
				t.Errorf("TurnsAround(%q, %d) = %d, but the winding is %d", s, n, turns, windings[n])
			}
			if short && turns != 0 {
				windingsTold++
			}
		}
	}
	if windingsTold < 500 {
		t.Errorf("%d windings", windingsTold)
	}
}

// A closed path turns around a nail as often when the steps below it are counted, as these go the
// other way.
func TestTurnsAroundFromBelow(t *testing.T) {
	for _, s := range loops() {
		below := [8]int{}
		for i, step := range []byte(s) {
			from, to := spotOf(s, i), spotOf(s, i+1)
			if column := min(from[0], to[0]); from[1] < 1 && column >= 1 && column <= 6 {
				below[column] += map[byte]int{'l': 1, 'r': -1}[step]
			}
		}
		for n := 1; n <= 6; n++ {
			turns, ok := impl.TurnsAround(s, n)
			checkNumber(t, turns, ok, below[n], "TurnsAround", s, n)
		}
	}
}

func TestReversePathKnown(t *testing.T) {
	for s, want := range map[string]string{
		"": "", "lr": "lr", "rl": "rl", "ud": "ud", "du": "du", "ruld": "urdl", "urdl": "ruld", "ldru": "dlur", "rurdll": "rruldl", "rruldl": "rurdll", "rrurdlll": "rrruldll",
		"rlud": "udrl", "rrll": "rrll", "lurrdl": "rulldr", long("lr", 200): long("lr", 200), "uulddr": "luurdd",
		wayTo(12, 12) + wayTo(-12, -12): wayTo(0, 12) + wayTo(12, -12) + "llllllllllll",
	} {
		got, ok := impl.ReversePath(s)
		wantText(t, got, ok, want, "ReversePath", s)
	}
	for _, s := range []string{"r", "l", "u", "d", "rr", "ur", "rurdl", "rurdlll", "rud", "lrl", wayTo(12, 12), long("lr", 199) + "l", wayTo(12, 12) + wayTo(-12, -11)} {
		got, ok := impl.ReversePath(s)
		wantNoText(t, got, ok, "ReversePath", s)
	}
}

// What is read on the way back is the inverse.
func TestReversePathOfKnownPaths(t *testing.T) {
	inverses := 0
	for _, s := range knownPaths() {
		got, ok := impl.ReversePath(s)
		if !isLoop(s) {
			wantNoText(t, got, ok, "ReversePath", s)
			continue
		}
		wantText(t, got, ok, backward(s), "ReversePath", s)
		spots := spotsOf(s)
		slices.Reverse(spots)
		if !slices.Equal(spotsOf(got), spots) {
			t.Errorf("ReversePath(%q) = %q: other points", s, got)
		}
		again, ok := impl.ReversePath(got)
		wantText(t, again, ok, s, "ReversePath twice", s)
		if w, short := impl.ReadPath(s); short {
			inverses++
			read, ok := impl.ReadPath(got)
			want, _ := impl.InverseWord(w)
			wantWord(t, read, ok, want, "ReadPath of ReversePath", s)
		}
	}
	if inverses < 100 {
		t.Errorf("%d inverses", inverses)
	}
}

func TestJoinPathsKnown(t *testing.T) {
	for _, c := range []struct {
		s    string
		t    string
		want string
	}{
		{"", "", ""}, {"", "u", "u"}, {"", "rurdll", "rurdll"}, {"rurdll", "", "rurdll"}, {"rurdll", "u", "rurdllu"}, {"lr", "rl", "lrrl"}, {"ud", "rrr", "udrrr"},
		{"rurdll", "rrurdlll", "rurdllrrurdlll"}, {"ruld", "lll", "ruldlll"}, {"lr", wayTo(12, 12), "lr" + wayTo(12, 12)}, {wayTo(-12, 5) + wayTo(12, -5), wayTo(12, -5), wayTo(-12, 5) + wayTo(12, -5) + wayTo(12, -5)},
		{long("lr", 100), long("ud", 100), long("lr", 100) + long("ud", 100)}, {long("lr", 200), "", long("lr", 200)}, {"", long("ud", 200), long("ud", 200)},
		{long("rl", 199), "uu", long("rl", 199) + "uu"}, {"rl", long("ud", 199), "rl" + long("ud", 199)}, {long("rl", 199), "u", long("rl", 199) + "u"},
		{long("rl", 199) + "ud", "", long("rl", 199) + "ud"},
	} {
		got, ok := impl.JoinPaths(c.s, c.t)
		wantText(t, got, ok, c.want, "JoinPaths", c.s, c.t)
	}
	for _, pair := range [][2]string{
		// The first one does not come back.
		{"u", ""}, {"u", "d"}, {"r", "rurdll"}, {"rurdl", "l"}, {"rurdlll", ""}, {wayTo(12, 12), wayTo(-12, -12)}, {long("lr", 199) + "l", "r"}, {"rud", "l"}, {"ull", ""},
		// They are too long together.
		{long("lr", 200), "u"}, {long("lr", 200), long("lr", 200)}, {"rl", long("ud", 199) + "u"}, {long("rl", 100), long("ud", 100) + "u"}, {long("rl", 199), "uud"}, {long("rl", 199), "uudd"}, {"ud", long("ud", 200)},
	} {
		got, ok := impl.JoinPaths(pair[0], pair[1])
		wantNoText(t, got, ok, "JoinPaths", pair[0], pair[1])
	}
}

// What is read along joined paths are both words, one behind the other, and all points of both.
func TestJoinPathsOfKnownPaths(t *testing.T) {
	paths := knownPaths()
	tooLong, products := 0, 0
	for i, s := range paths {
		second := paths[(i*37+11)%len(paths)]
		got, ok := impl.JoinPaths(s, second)
		if !isLoop(s) || len(s)+len(second) > impl.MaxPath {
			wantNoText(t, got, ok, "JoinPaths", s, second)
			tooLong++
			continue
		}
		wantText(t, got, ok, s+second, "JoinPaths", s, second)
		if !impl.IsPath(got) || !slices.Equal(spotsOf(got)[len(s):], spotsOf(second)) {
			t.Errorf("JoinPaths(%q, %q) = %q", s, second, got)
		}
		u, one := impl.ReadPath(s)
		v, two := impl.ReadPath(second)
		if w, short := impl.ReadPath(got); one && two && short {
			products++
			wantWord(t, w, short, joined(u, v), "ReadPath of JoinPaths", s, second)
		}
	}
	if tooLong < 100 || products < 100 {
		t.Error(tooLong, "others,", products, "products")
	}
}
