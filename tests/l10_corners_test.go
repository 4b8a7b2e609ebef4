package tests

import (
	"math"
	"slices"
	"testing"

	"loop.example/g01206/impl"
)

func TestShrinkPathKnown(t *testing.T) {
	for s, want := range map[string]string{
		"": "", "l": "l", "lr": "", "rl": "", "ud": "", "du": "", "ll": "ll", "lu": "lu", "ld": "ld", "rlr": "r", "lrl": "l", "rrl": "r", "lrr": "r", "udu": "u", "uud": "u",
		// Steps there and back inside others.
		"rudl": "", "rlud": "", "rrll": "", "ulrd": "", "uulrdd": "", "rulrdl": "", "uurlddrl": "", "rudlu": "u", "lludurrr": "llurrr", "dlrudu": "", "rurlulrdr": "rur",
		"rrudlu": "ru", "urdulud": "u", long("u", 12) + long("d", 12): "", long("l", 12) + long("r", 24): long("r", 12),
		"rurdll" + "rruldl": "", "rruldl" + "rurdll": "", "u" + "rurdll" + "rruldl" + "r": "ur", long("lr", 200): "", long("rl", 199) + "uu": "uu", "u" + long("lr", 199) + "d": "",
		// Nothing goes there and back at once.
		"rurdll": "rurdll", "rruldl": "rruldl", "ruld": "ruld", "ruldruld": "ruldruld", "lurd": "lurd", "rulurd": "rulurd", long("ruld", 100): long("ruld", 100), "rurdrurd": "rurdrurd",
		wayTo(-12, 12) + wayTo(12, -12): wayTo(-12, 12) + wayTo(12, -12),
		// The ends of a closed path are not beside each other.
		"rruldll": "rruldll", "urdlld": "urdlld", "rl" + "ruld" + "lr": "ruld",
	} {
		got, ok := impl.ShrinkPath(s)
		wantText(t, got, ok, want, "ShrinkPath", s)
	}
}

// Its word is reduced to the same word, and it ends at the same point.
func TestShrinkPathOfKnownPaths(t *testing.T) {
	stay, vanish, shorter := 0, 0, 0
	for _, s := range knownPaths() {
		got, ok := impl.ShrinkPath(s)
		wantText(t, got, ok, wantShrunk(s), "ShrinkPath", s)
		if !impl.IsPath(got) || spotOf(got, len(got)) != spotOf(s, len(s)) {
			t.Errorf("ShrinkPath(%q) = %q", s, got)
		}
		if a, b := wantReduced(wantLetters(s)), wantReduced(wantLetters(got)); !slices.Equal(a, b) {
			t.Errorf("ShrinkPath(%q): %v and %v", s, a, b)
		}
		again, ok := impl.ShrinkPath(got)
		wantText(t, again, ok, got, "ShrinkPath", got)
		switch len(got) {
		case len(s):
			stay++
		case 0:
			vanish++
		default:
			shorter++
		}
	}
	if stay < 100 || vanish < 100 || shorter < 500 {
		t.Error(stay, "stay,", vanish, "vanish,", shorter, "get shorter")
	}
}

// A path and the way back shrink to nothing, from the inside out.
func TestShrinkPathThereAndBack(t *testing.T) {
	for _, s := range knownPaths() {
		half := s[:min(len(s), impl.MaxPath/2)]
		got, ok := impl.ShrinkPath(half + backward(half))
		wantText(t, got, ok, "", "ShrinkPath there and back", half)
	}
}

func TestFlipPathKnown(t *testing.T) {
	for s, want := range map[string]string{
		"": "", "u": "d", "d": "u", "l": "l", "r": "r", "ur": "dr", "lrud": "lrdu", "rurdll": "rdrull", "rdrull": "rurdll", "uudd": "dduu", long("lr", 200): long("lr", 200),
		// At the edge.
		wayTo(0, 12): wayTo(0, -12), wayTo(12, -12) + long("u", 24): wayTo(12, 12) + long("d", 24), wayTo(-12, 12) + long("r", 24): wayTo(-12, -12) + long("r", 24),
		long("ud", 200): long("du", 200),
	} {
		got, ok := impl.FlipPath(s)
		wantText(t, got, ok, want, "FlipPath", s)
	}
}

func TestFlipPathOfKnownPaths(t *testing.T) {
	for _, s := range knownPaths() {
		got, ok := impl.FlipPath(s)
		if !ok || len(got) != len(s) || !impl.IsPath(got) {
			t.Fatalf("FlipPath(%q) = %q, %v", s, got, ok)
		}
		for i, spot := range spotsOf(s) {
			if mirrored := spotOf(got, i); mirrored != [2]int{spot[0], -spot[1]} {
				t.Errorf("FlipPath(%q) = %q: %v, not %v", s, got, mirrored, spot)
			}
		}
		again, ok := impl.FlipPath(got)
		wantText(t, again, ok, s, "FlipPath twice", s)
	}
}

// checkPush checks what a corner is pushed to, that it is there again when it is pushed twice, and
// that it is free as it was.
func checkPush(t *testing.T, s string, i int, want string, wantFree bool) {
	t.Helper()
	got, free, ok := impl.PushCorner(s, i)
	if !ok || got != want || free != wantFree {
		t.Errorf("PushCorner(%q, %d) = %q, %v, %v, not %q, %v", s, i, got, free, ok, want, wantFree)
	}
	again, free, ok := impl.PushCorner(got, i)
	if !ok || again != s || free != wantFree {
		t.Errorf("PushCorner(%q, %d) = %q, %v, %v, not %q, %v", got, i, again, free, ok, s, wantFree)
	}
}

func TestPushCornerKnown(t *testing.T) {
	for _, c := range []struct {
		path string
		i    int
		want string
		free bool
	}{
		{"ur", 0, "ru", true}, {"ru", 0, "ur", true}, {"ld", 0, "dl", true}, {"lu", 0, "ul", true}, {"rd", 0, "dr", true}, {"dr", 0, "rd", true}, {"dl", 0, "ld", true}, {"ul", 0, "lu", true},
		{"rurdll", 0, "urrdll", true}, {"rurdll", 1, "rrudll", false}, {"rurdll", 2, "rudrll", false}, {"rurdll", 3, "rurldl", false},
		{"rruldl", 4, "rrulld", true}, {"rruldl", 1, "rurldl", false}, {"rrrrrrurdlllllll", 6, "rrrrrrrudlllllll", false}, {"rrrrrrurdlllllll", 5, "rrrrrurrdlllllll", false},
		{"rrrrrrrur", 7, "rrrrrrrru", true}, {"rrrrrrrur", 6, "rrrrrrurr", false}, {"ruur", 2, "ruru", true}, {"rdr", 1, "rrd", true}, {"rdlu", 2, "rdul", true},
		{"rrruuldd", 4, "rrruludd", true}, {"rrruuldd", 5, "rrruudld", true}, {"rruldr", 2, "rrlu" + "dr", false},
	} {
		checkPush(t, c.path, c.i, c.want, c.free)
	}
}

// Each corner over each square of the grid: eight ways to go over it from four points. It is free
// but over the six squares with nails.
func TestPushCornerOverEachSquare(t *testing.T) {
	held := 0
	for x := -12; x < 12; x++ {
		for y := -12; y < 12; y++ {
			for _, c := range []struct{ right, up, twist string }{
				{"", "", "ru"}, {"", "", "ur"}, {"r", "", "lu"}, {"r", "", "ul"}, {"", "u", "rd"}, {"", "u", "dr"}, {"r", "u", "ld"}, {"r", "u", "dl"},
			} {
				start := wayTo(x+len(c.right), y+len(c.up))
				s, i := start+c.twist, len(start)
				hasNail := y == 0 && x >= 1 && x <= 6
				checkPush(t, s, i, start+c.twist[1:]+c.twist[:1], !hasNail)
				free, ok := impl.FreeCorners(s)
				if !ok || slices.Contains(free, i) == hasNail {
					t.Errorf("FreeCorners(%q) = %v, %v: %d", s, free, ok, i)
				}
				if hasNail {
					held++
				}
			}
		}
	}
	if held != 48 {
		t.Errorf("%d corners are not free", held)
	}
}

// noCorners are numbers that are no corners of a path.
func noCorners(s string) []int {
	numbers := append(noFrom(0, len(s)-2), -1, len(s)-1, len(s), len(s)+1, 399, 400, 401, math.MaxInt-2)
	for i := range s {
		if !wantCorner(s, i) {
			numbers = append(numbers, i)
		}
		numbers = append(numbers, i-len(s), i+1<<32, i-1<<32, i+1<<62)
	}
	return slices.DeleteFunc(numbers, func(i int) bool { return wantCorner(s, i) })
}

func TestPushCornerRefusesOtherNumbers(t *testing.T) {
	refused := 0
	paths := append(shortPaths(4), edgePaths()...)
	for _, s := range append(append(paths, loopPaths()...), "rrruuu", "rrru", "lldd", long("ruld", 100), long("lr", 200)) {
		for _, i := range noCorners(s) {
			got, free, ok := impl.PushCorner(s, i)
			if ok || free || got != "" {
				t.Errorf("PushCorner(%q, %d) = %q, %v, %v", s, i, got, free, ok)
			}
			refused++
		}
	}
	if refused < 5000 {
		t.Errorf("%d numbers", refused)
	}
}

// Corners of two steps along the same line, there and back, the last step, and behind it.
func TestPushCornerRefusesKnown(t *testing.T) {
	for _, c := range []struct {
		path string
		i    int
	}{
		{"", 0}, {"", -1}, {"", 1}, {"r", 0}, {"r", -1}, {"r", 1}, {"ru", -1}, {"ru", 1}, {"ru", 2}, {"ru", 3}, {"rr", 0}, {"ll", 0}, {"uu", 0}, {"dd", 0}, {"rl", 0}, {"lr", 0},
		{"ud", 0}, {"du", 0}, {"rru", 0}, {"ruu", 1}, {"rurdll", 4}, {"rurdll", 5}, {"rurdll", 6}, {"rurdll", math.MaxInt}, {"rurdll", math.MinInt}, {"rurdll", math.MaxInt - 1},
		{"rurdll", 1 << 32}, {"rurdll", -1 << 32}, {"rurdll", 256}, {"urrd", 1}, {"uldr", 3}, {long("ruld", 100), 399}, {long("ruld", 100), 400}, {long("ruld", 100), -1},
	} {
		got, free, ok := impl.PushCorner(c.path, c.i)
		if ok || free || got != "" {
			t.Errorf("PushCorner(%q, %d) = %q, %v, %v", c.path, c.i, got, free, ok)
		}
	}
	checkPush(t, long("ruld", 100), 398, long("ruld", 99)+"rudl", true)
}

func TestFreeCornersKnown(t *testing.T) {
	for _, c := range []struct {
		path string
		want []int
	}{
		// None: no corners at all, or none that is free.
		{"", nil}, {"r", nil}, {"rrrrllll", nil}, {"uddu", nil}, {"rrurdlll", nil}, {"rrru", nil}, {"rrrudlu", nil}, {"rrrrrruldr", nil}, {"rrrrrrru", nil},
		// Some.
		{"rurdll", []int{0}}, {"rruldl", []int{4}}, {"rrrrrrrrur", []int{7, 8}}, {"rrrrrrrur", []int{7}}, {"uur", []int{1}}, {"rruurrddll", []int{3, 5}},
		// All.
		{"ru", []int{0}}, {"ruld", []int{0, 1, 2}}, {"ldru", []int{0, 1, 2}}, {"rdrurdru", []int{0, 1, 2, 3, 4, 5, 6}}, {"uurdru", []int{1, 2, 3, 4}},
		{long("r", 7) + "rulu", []int{7, 8, 9}}, {long("dlur", 3), []int{0, 1, 2, 3, 4, 5, 6, 7, 8, 9, 10}},
	} {
		got, ok := impl.FreeCorners(c.path)
		wantWord(t, got, ok, c.want, "FreeCorners", c.path)
	}
}

// Free corners are those of which PushCorner says so, and there are corners that are not.
func TestCornersOfKnownPaths(t *testing.T) {
	freeOnes, others := 0, 0
	for _, s := range knownPaths() {
		got, ok := impl.FreeCorners(s)
		wantWord(t, got, ok, wantFreeCorners(s), "FreeCorners", s)
		told := []int{}
		for i := range s {
			pushed, free, ok := impl.PushCorner(s, i)
			if ok != wantCorner(s, i) || ok && pushed != wantPushed(s, i) || !ok && (free || pushed != "") {
				t.Errorf("PushCorner(%q, %d) = %q, %v, %v", s, i, pushed, free, ok)
			}
			if free {
				told = append(told, i)
				freeOnes++
			} else if ok {
				others++
			}
		}
		if !slices.Equal(told, got) {
			t.Errorf("FreeCorners(%q) = %v, but PushCorner says so of %v", s, got, told)
		}
	}
	if freeOnes < 5000 || others < 1000 {
		t.Error(freeOnes, "free corners,", others, "others")
	}
}

// To push a free corner leaves what the word of a closed path is reduced to as it is; to push
// another one takes the loop over one nail.
func TestPushedCornersOfClosedPaths(t *testing.T) {
	for _, s := range loops() {
		word := wantReduced(wantLetters(s))
		for i := range s {
			pushed, free, ok := impl.PushCorner(s, i)
			// Of long paths, every seventh number is enough.
			if !ok || len(s) > 60 && (i+len(s))%7 != 0 {
				continue
			}
			if !impl.IsPath(pushed) || !isLoop(pushed) {
				t.Fatalf("PushCorner(%q, %d) = %q", s, i, pushed)
			}
			if free != slices.Equal(wantReduced(wantLetters(pushed)), word) {
				t.Errorf("PushCorner(%q, %d) = %q, %v: %v and %v", s, i, pushed, free, word, wantLetters(pushed))
			}
			changes := 0
			for n := 1; n <= 6; n++ {
				before, _ := impl.TurnsAround(s, n)
				behind, _ := impl.TurnsAround(pushed, n)
				changes += (before - behind) * (before - behind)
			}
			if changes != map[bool]int{true: 0, false: 1}[free] {
				t.Errorf("PushCorner(%q, %d) = %q, %v: turns differ by %d", s, i, pushed, free, changes)
			}
		}
	}
}

// However often free corners of a loop are pushed, and steps there and back are taken out in
// between, its word is reduced to the same word.
func TestManyPushesOfFreeCorners(t *testing.T) {
	state := 99
	for _, text := range []string{"a", "F", "abAB", "ab", "cC", "fAFa", "abcABC", "dEfD", "bbb", "aBBa", "cdCDc", "eAeB", "abABcbaBAC"} {
		s, ok := impl.LoopPath(wordOf(text))
		if !ok {
			t.Fatalf("LoopPath(%s) failed", text)
		}
		s += "rrrrlldduull" + "uu" + "ddllrr"
		moved := 0
		for round := range 600 {
			free, ok := impl.FreeCorners(s)
			if !ok {
				t.Fatalf("FreeCorners(%q) failed", s)
			}
			if len(free) > 0 {
				state = (state*1103515245 + 12345) % (1 << 31)
				s, _, _ = impl.PushCorner(s, free[state>>12%len(free)])
				moved++
			}
			if round%200 == 199 {
				s, _ = impl.ShrinkPath(s)
			}
			w, ok := impl.ReadPath(s)
			if !ok || !isLoop(s) || !slices.Equal(wantReduced(w), wantReduced(wordOf(text))) {
				t.Fatalf("%s: %q is read as %v", text, s, w)
			}
		}
		if moved < 100 {
			t.Errorf("%s: %d pushes", text, moved)
		}
	}
}
