package tests

import (
	"testing"

	"loop.example/g01206/impl"
)

// toldPath is a path and what the document tells of it. The answers were worked out by a script of
// their own.
type toldPath struct {
	path   string
	end    [2]int
	text   string
	shrunk string
	free   []int
	box    [4]int
	visits [][3]int
	turns  [6]int
}

func toldPaths() []toldPath {
	return []toldPath{
		{"", [2]int{0, 0}, "", "", nil, [4]int{0, 0, 0, 0}, nil, [6]int{}},
		{"r", [2]int{1, 0}, "", "r", nil, [4]int{0, 1, 0, 0}, nil, [6]int{}},
		{"u", [2]int{0, 1}, "", "u", nil, [4]int{0, 0, 0, 1}, nil, [6]int{}},
		{"lr", [2]int{0, 0}, "", "", nil, [4]int{-1, 0, 0, 0}, [][3]int{{0, 0, 2}}, [6]int{}},
		{"rurdll", [2]int{0, 0}, "a", "rurdll", []int{0}, [4]int{0, 2, 0, 1}, [][3]int{{0, 0, 2}, {1, 0, 2}}, [6]int{1}},
		{"rruldl", [2]int{0, 0}, "A", "rruldl", []int{4}, [4]int{0, 2, 0, 1}, [][3]int{{0, 0, 2}, {1, 0, 2}}, [6]int{-1}},
		{"rrurdlll", [2]int{0, 0}, "b", "rrurdlll", nil, [4]int{0, 3, 0, 1}, [][3]int{{0, 0, 2}, {1, 0, 2}, {2, 0, 2}}, [6]int{0, 1}},
		{"rurrrrrrrdlllllll", [2]int{1, 0}, "abcdef", "rurrrrrrrdlllllll", []int{0, 8, 9}, [4]int{0, 8, 0, 1}, [][3]int{{1, 0, 2}}, [6]int{1, 1, 1, 1, 1, 1}},
		{"ruuurdddll", [2]int{0, 0}, "a", "ruuurdddll", []int{0, 3, 4}, [4]int{0, 2, 0, 3}, [][3]int{{0, 0, 2}, {1, 0, 2}}, [6]int{1}},
		{"rrdldrruuulldrr", [2]int{3, 0}, "BA", "rrdldrruuulldrr", []int{1, 2, 3, 4, 6}, [4]int{0, 3, -2, 1}, [][3]int{{1, 0, 2}, {2, 0, 2}, {3, 0, 2}}, [6]int{-1, -1}},
		{"lluurrrrrrrrrddddlllllllluurr", [2]int{1, 0}, "abcdef", "lluurrrrrrrrrddddlllllllluurr", []int{1, 3, 12, 16, 24, 26}, [4]int{-2, 7, -2, 2},
			[][3]int{{-1, 0, 2}, {0, 0, 2}}, [6]int{1, 1, 1, 1, 1, 1}},
		{"rurdlurdlurdlurdlu", [2]int{1, 1}, "aaaa", "rurdlurdlurdlurdlu", []int{0}, [4]int{0, 2, 0, 1}, [][3]int{{1, 0, 5}, {1, 1, 5}, {2, 0, 4}, {2, 1, 4}}, [6]int{4}},
		{"urlrlrlrrd", [2]int{2, 0}, "a", "urrd", []int{0}, [4]int{0, 2, 0, 1}, [][3]int{{0, 1, 4}, {1, 1, 4}}, [6]int{1}},
		{"ddrrrrrruulllluurrrrddlldllll", [2]int{0, -1}, "bcde", "ddrrrrrruulllluurrrrddlldllll", []int{1, 7, 9, 15, 19, 23, 24}, [4]int{0, 6, -2, 2},
			[][3]int{{0, -1, 2}, {4, 0, 2}, {5, 0, 2}, {6, 0, 2}}, [6]int{0, 1, 1, 1, 1}},
		{"dlurdlurdlur", [2]int{0, 0}, "", "dlurdlurdlur", []int{0, 1, 2, 3, 4, 5, 6, 7, 8, 9, 10}, [4]int{-1, 0, -1, 0},
			[][3]int{{-1, -1, 3}, {-1, 0, 3}, {0, -1, 3}, {0, 0, 4}}, [6]int{}},
		{"rrruldrruuullldddlurr", [2]int{2, 1}, "BCBAa", "rrruldrruuullldddlurr", []int{10, 13, 16, 17, 18}, [4]int{0, 4, 0, 3},
			[][3]int{{0, 0, 2}, {1, 0, 2}, {1, 1, 2}, {2, 0, 2}, {2, 1, 2}, {3, 0, 2}}, [6]int{0, -2, -1}},
		{"rllrlrudduud", [2]int{0, 0}, "", "", []int{5}, [4]int{-1, 1, -1, 1}, [][3]int{{-1, 0, 2}, {0, 0, 7}, {0, 1, 2}}, [6]int{}},
		{"uuuurrrrdrdrdrdrdldlldlulululull", [2]int{-1, 1}, "abcdef", "uuuurrrrdrdrdrdrdldlldlulululull",
			[]int{3, 7, 8, 9, 10, 11, 12, 14, 15, 16, 17, 18, 20, 21, 22, 23, 24, 25, 26, 27, 29}, [4]int{-1, 8, -3, 4}, [][3]int{{0, 1, 2}}, [6]int{1, 1, 1, 1, 1, 1}},
	}
}

func TestPathsKnown(t *testing.T) {
	for _, p := range toldPaths() {
		s := p.path
		end, ok := impl.EndOf(s)
		if !impl.IsPath(s) || !ok || end != p.end {
			t.Errorf("EndOf(%q) = %v, %v, not %v", s, end, ok, p.end)
		}
		closed, ok := impl.IsClosed(s)
		checkFlag(t, closed, ok, p.end == [2]int{}, "IsClosed", s)
		w, ok := impl.ReadPath(s)
		wantWord(t, w, ok, wordOf(p.text), "ReadPath", s)
		shrunk, ok := impl.ShrinkPath(s)
		wantText(t, shrunk, ok, p.shrunk, "ShrinkPath", s)
		free, ok := impl.FreeCorners(s)
		wantWord(t, free, ok, p.free, "FreeCorners", s)
		box, ok := impl.BoxOf(s)
		if !ok || box != p.box {
			t.Errorf("BoxOf(%q) = %v, %v, not %v", s, box, ok, p.box)
		}
		visits, ok := impl.VisitsOf(s)
		checkVisits(t, visits, ok, p.visits, "VisitsOf", s)
		for k, want := range p.turns {
			turns, ok := impl.TurnsAround(s, k+1)
			checkNumber(t, turns, ok, want, "TurnsAround", s, k+1)
		}
	}
}

// Paths may be at the edges of the grid and go along them, but no step beyond, even if it comes
// back at once.
func TestPathsEndAtTheEdge(t *testing.T) {
	for _, c := range []struct {
		path string
		step string
		end  [2]int
	}{
		{long("l", 12), "l", [2]int{-12, 0}}, {long("r", 12), "r", [2]int{12, 0}}, {long("u", 12), "u", [2]int{0, 12}}, {long("d", 12), "d", [2]int{0, -12}},
		{wayTo(12, 12) + long("l", 24), "l", [2]int{-12, 12}}, {wayTo(12, 12) + long("l", 24), "u", [2]int{-12, 12}},
		{wayTo(-12, -12) + long("r", 24), "r", [2]int{12, -12}}, {wayTo(-12, -12) + long("r", 24), "d", [2]int{12, -12}},
		{wayTo(-12, 12) + long("d", 24), "d", [2]int{-12, -12}}, {wayTo(-12, 12) + long("d", 24), "l", [2]int{-12, -12}},
		{wayTo(12, -12) + long("u", 24), "u", [2]int{12, 12}}, {wayTo(12, -12) + long("u", 24), "r", [2]int{12, 12}},
		{long("lr", 193) + long("u", 12), "u", [2]int{0, 12}}, {long("ud", 193) + long("l", 12), "l", [2]int{-12, 0}},
	} {
		end, ok := impl.EndOf(c.path)
		if !impl.IsPath(c.path) || !ok || end != c.end {
			t.Errorf("EndOf(%q) = %v, %v, not %v", c.path, end, ok, c.end)
		}
		for _, s := range []string{c.path + c.step, c.path + c.step + backward(c.step), c.path + c.step + backward(c.path+c.step)} {
			if impl.IsPath(s) {
				t.Errorf("IsPath(%q)", s)
			}
		}
		if back := c.path + backward(c.step); !impl.IsPath(back) {
			t.Errorf("not IsPath(%q)", back)
		}
	}
}

func TestPathsHaveAtMostMaxPathSteps(t *testing.T) {
	for _, s := range []string{long("lr", 200), long("ud", 200), long("ruld", 100), long("l", 12) + long("rl", 194), long("rurdll", 66) + "rlrl", long("d", 12) + long("l", 12) + long("ud", 188)} {
		if len(s) != impl.MaxPath || !impl.IsPath(s) || !impl.IsPath(s[:399]) {
			t.Errorf("not IsPath(%q)", s)
		}
		for _, step := range []string{"l", "r", "u", "d"} {
			if impl.IsPath(s + step) {
				t.Errorf("IsPath(%q + %q)", s, step)
			}
		}
	}
}

func TestIsPathOfOtherTexts(t *testing.T) {
	for _, s := range noPaths() {
		if impl.IsPath(s) {
			t.Errorf("IsPath(%q)", s)
		}
	}
	// Another byte at any place of a path.
	for _, s := range []string{"rurdll", long("lr", 200), long("ruld", 100)} {
		for i := range len(s) {
			for _, b := range []string{"L", "x", " ", "\xff", "\x00", "c", "e", "k", "m", "q", "s", "t", "v"} {
				if bad := s[:i] + b + s[i+1:]; impl.IsPath(bad) {
					t.Errorf("IsPath(%q)", bad)
				}
			}
		}
	}
}

// Texts of steps alone that leave the grid, or do not.
func TestIsPathOfLongWalks(t *testing.T) {
	paths, others := 0, 0
	for k, s := range wanderings() {
		for _, ahead := range []string{"", long("r", k%14), long("u", k%15), long("l", k%16), long("d", k%17), wayTo(k%13, -k%13)} {
			text := ahead + s
			want := wantPath(text)
			if impl.IsPath(text) != want {
				t.Errorf("IsPath(%q) is not %v", text, want)
			}
			if want {
				paths++
			} else {
				others++
			}
		}
	}
	if paths < 500 || others < 500 {
		t.Error(paths, "paths,", others, "others")
	}
}

func TestIsClosedKnown(t *testing.T) {
	for s, want := range map[string]bool{
		"": true, "l": false, "r": false, "u": false, "d": false, "lr": true, "rl": true, "ud": true, "du": true, "lu": false, "ll": false,
		"rurdll": true, "rruldl": true, "ruld": true, "rul": false, "uld": false, "rurdl": false, "rurdlll": false, "rruldld": false,
		long("lr", 200): true, long("lr", 199) + "l": false, wayTo(12, 12) + wayTo(-12, -12): true, wayTo(12, 12) + wayTo(-12, -11): false,
		wayTo(12, 12) + wayTo(-11, -12): false, wayTo(-12, -12) + wayTo(12, 12): true, wayTo(3, -3) + wayTo(3, -3): false, wayTo(1, 1) + wayTo(-1, 1): false,
		wayTo(1, -1): false, wayTo(2, 2) + wayTo(-2, -2): true,
	} {
		closed, ok := impl.IsClosed(s)
		checkFlag(t, closed, ok, want, "IsClosed", s)
	}
}

func TestPointsOfKnownPaths(t *testing.T) {
	for _, s := range knownPaths() {
		end, ok := impl.EndOf(s)
		if !impl.IsPath(s) || !ok || end != spotOf(s, len(s)) {
			t.Fatalf("EndOf(%q) = %v, %v", s, end, ok)
		}
		closed, ok := impl.IsClosed(s)
		checkFlag(t, closed, ok, isLoop(s), "IsClosed", s)
		box, ok := impl.BoxOf(s)
		if !ok || box != wantBox(s) {
			t.Errorf("BoxOf(%q) = %v, %v, not %v", s, box, ok, wantBox(s))
		}
		visits, ok := impl.VisitsOf(s)
		checkVisits(t, visits, ok, wantVisits(s), "VisitsOf", s)
	}
}

// The first point is in each box, also if all others are on one side of it.
func TestBoxOfKnown(t *testing.T) {
	for s, want := range map[string][4]int{
		"": {}, "r": {0, 1, 0, 0}, "l": {-1, 0, 0, 0}, "u": {0, 0, 0, 1}, "d": {0, 0, -1, 0}, "rr": {0, 2, 0, 0}, "rrll": {0, 2, 0, 0}, "llrr": {-2, 0, 0, 0},
		"uuudd": {0, 0, 0, 3}, "ddduu": {0, 0, -3, 0}, "ruru": {0, 2, 0, 2}, "ldld": {-2, 0, -2, 0}, "rdrd": {0, 2, -2, 0}, "lulu": {-2, 0, 0, 2},
		"rurdll": {0, 2, 0, 1}, "lurrdd": {-1, 1, -1, 1}, "rrrllll": {-1, 3, 0, 0}, "uuudddd": {0, 0, -1, 3}, "lllrrrrrr": {-3, 3, 0, 0},
		wayTo(12, 12): {0, 12, 0, 12}, wayTo(-12, -12): {-12, 0, -12, 0}, wayTo(-12, 12) + wayTo(24, -24): {-12, 12, -12, 12}, long("ud", 200): {0, 0, 0, 1},
	} {
		got, ok := impl.BoxOf(s)
		if !ok || got != want {
			t.Errorf("BoxOf(%q) = %v, %v, not %v", s, got, ok, want)
		}
	}
}

func TestVisitsOfKnown(t *testing.T) {
	for _, c := range []struct {
		path string
		want [][3]int
	}{
		// No point twice.
		{"", nil}, {"r", nil}, {"ld", nil}, {"rul", nil}, {"rurdddlll", nil}, {wayTo(12, 12), nil}, {long("l", 12), nil},
		// The first point again.
		{"ruld", [][3]int{{0, 0, 2}}}, {"rl", [][3]int{{0, 0, 2}}}, {"ruldd", [][3]int{{0, 0, 2}}}, {"dlur", [][3]int{{0, 0, 2}}},
		// Others, but not the first one.
		{"rrl", [][3]int{{1, 0, 2}}}, {"lld" + "ur", [][3]int{{-2, 0, 2}, {-1, 0, 2}}}, {"ddu", [][3]int{{0, -1, 2}}}, {"rruldd", [][3]int{{1, 0, 2}}},
		// Three times and more.
		{"rlrl", [][3]int{{0, 0, 3}, {1, 0, 2}}}, {"rlrlr", [][3]int{{0, 0, 3}, {1, 0, 3}}}, {"lrudrldu", [][3]int{{0, 0, 5}}},
		{long("lr", 200), [][3]int{{-1, 0, 200}, {0, 0, 201}}}, {"d" + long("lr", 199), [][3]int{{-1, -1, 199}, {0, -1, 200}}},
		// By X, and then by Y, whatever the order of the visits is.
		{"llrruuddrrllddu", [][3]int{{-1, 0, 2}, {0, -1, 2}, {0, 0, 4}, {0, 1, 2}, {1, 0, 2}}},
		{"ruldruld" + "ldruldru", [][3]int{{-1, -1, 2}, {-1, 0, 2}, {0, -1, 2}, {0, 0, 5}, {0, 1, 2}, {1, 0, 2}, {1, 1, 2}}},
		{"uuuudddd", [][3]int{{0, 0, 2}, {0, 1, 2}, {0, 2, 2}, {0, 3, 2}}}, {"ddddduuuuu", [][3]int{{0, -4, 2}, {0, -3, 2}, {0, -2, 2}, {0, -1, 2}, {0, 0, 2}}},
		{wayTo(-12, -2) + wayTo(2, 2) + "dd", [][3]int{{-10, -2, 2}, {-10, -1, 2}, {-10, 0, 2}}},
		{wayTo(2, 12) + wayTo(0, -3) + wayTo(0, 1), [][3]int{{2, 9, 2}, {2, 10, 3}, {2, 11, 2}}},
	} {
		got, ok := impl.VisitsOf(c.path)
		checkVisits(t, got, ok, c.want, "VisitsOf", c.path)
	}
}
