package tests

import (
	"slices"
	"strconv"
	"strings"
	"testing"

	"loop.example/g01206/impl"
)

// long is a text, times times.
func long(s string, times int) string {
	return strings.Repeat(s, times)
}

// spotOf is where the first steps of a text lead: how many go to the right, less those to the
// left, and how many go up, less those down.
func spotOf(s string, steps int) [2]int {
	s = s[:steps]
	return [2]int{strings.Count(s, "r") - strings.Count(s, "l"), strings.Count(s, "u") - strings.Count(s, "d")}
}

// spotsOf are all points of a path.
func spotsOf(s string) [][2]int {
	spots := [][2]int{}
	for steps := range len(s) + 1 {
		spots = append(spots, spotOf(s, steps))
	}
	return spots
}

// wantPath tells whether a text is a path.
func wantPath(s string) bool {
	return len(s) <= 400 && strings.Trim(s, "lrud") == "" && !slices.ContainsFunc(spotsOf(s), func(spot [2]int) bool {
		return max(spot[0], spot[1]) > 12 || min(spot[0], spot[1]) < -12
	})
}

// isLoop tells whether a path ends where it begins.
func isLoop(s string) bool {
	return spotOf(s, len(s)) == [2]int{}
}

// wantLetters is the word of a path, of any length: a step to the left is read as that to the
// right on the way back.
func wantLetters(s string) []int {
	letters := []int{}
	for i, step := range []byte(s) {
		from := spotOf(s, i)
		if step == 'l' {
			from[0]--
		}
		if from[1] < 1 || from[0] < 1 || from[0] > 6 || step == 'u' || step == 'd' {
			continue
		}
		letters = append(letters, map[byte]int{'r': 1, 'l': -1}[step]*from[0])
	}
	return letters
}

// wantTurns counts the letters of a nail.
func wantTurns(s string, n int) int {
	turns := 0
	for _, letter := range wantLetters(s) {
		turns += map[int]int{n: 1, -n: -1}[letter]
	}
	return turns
}

// backward is the way back along a path.
func backward(s string) string {
	var back strings.Builder
	for _, step := range slices.Backward([]byte(s)) {
		back.WriteByte("lrud"[strings.IndexByte("rldu", step)])
	}
	return back.String()
}

// wantShrunk takes out steps there and back of one kind after the other.
func wantShrunk(s string) string {
	for _, pair := range []string{"du", "lr", "ud", "rl"} {
		if strings.Contains(s, pair) {
			return wantShrunk(strings.Replace(s, pair, "", 1))
		}
	}
	return s
}

// wantCorner tells whether a number is a corner of a path.
func wantCorner(s string, i int) bool {
	return i >= 0 && i < len(s)-1 && strings.Contains("ld lu rd ru dl ul dr ur", s[i:i+2])
}

// wantPushed exchanges the steps of a corner.
func wantPushed(s string, i int) string {
	return s[:i] + s[i+1:i+2] + s[i:i+1] + s[i+2:]
}

// wantFree tells whether the square of a corner has no nail: steps to the left and down lead to
// its least coordinates.
func wantFree(s string, i int) bool {
	least := spotOf(s, i)
	least[0] -= strings.Count(s[i:i+2], "l")
	least[1] -= strings.Count(s[i:i+2], "d")
	return least[1] != 0 || !slices.Contains([]int{1, 2, 3, 4, 5, 6}, least[0])
}

// wantFreeCorners are all corners of a path that are free.
func wantFreeCorners(s string) []int {
	corners := []int{}
	for i := range len(s) {
		if wantCorner(s, i) && wantFree(s, i) {
			corners = append(corners, i)
		}
	}
	return corners
}

// wantBox sorts the coordinates of all points.
func wantBox(s string) [4]int {
	xs, ys := []int{}, []int{}
	for _, spot := range spotsOf(s) {
		xs, ys = append(xs, spot[0]), append(ys, spot[1])
	}
	return [4]int{slices.Min(xs), slices.Max(xs), slices.Min(ys), slices.Max(ys)}
}

// wantVisits looks at all points of the grid, one after the other.
func wantVisits(s string) [][3]int {
	times := [25][25]int{}
	for _, spot := range spotsOf(s) {
		times[spot[0]+12][spot[1]+12]++
	}
	visits := [][3]int{}
	for x := -12; x <= 12; x++ {
		for y := -12; y <= 12; y++ {
			if times[x+12][y+12] > 1 {
				visits = append(visits, [3]int{x, y, times[x+12][y+12]})
			}
		}
	}
	return visits
}

// wayTo is a path to a point: along the row 0, where no step is read, and then up or down.
func wayTo(x int, y int) string {
	return long("r", max(x, 0)) + long("l", max(-x, 0)) + long("u", max(y, 0)) + long("d", max(-y, 0))
}

// closedBy is a path and the way back from its end to its first point.
func closedBy(s string) string {
	end := spotOf(s, len(s))
	return s + backward(wayTo(end[0], end[1]))
}

// shortPaths are all paths of at most size steps.
func shortPaths(size int) []string {
	paths := []string{""}
	start := 0
	for range size {
		end := len(paths)
		for _, s := range paths[start:end] {
			paths = append(paths, s+"l", s+"r", s+"u", s+"d")
		}
		start = end
	}
	return paths
}

// wanderings are paths of all lengths; those of one kind keep near to the nails, so that many
// letters are read, others go everywhere, also along the edges.
func wanderings() []string {
	paths := []string{}
	state := 4711
	for size := range impl.MaxPath + 1 {
		low, high := [2]int{-12, -12}, [2]int{12, 12}
		if size%2 == 0 {
			low, high = [2]int{0, -1}, [2]int{8, 2}
		}
		s, spot := []byte{}, [2]int{}
		straight := byte('r')
		for len(s) < size {
			state = (state*1103515245 + 12345) % (1 << 31)
			step := "lrud"[state>>16&3]
			if state>>20&3 < size%4 {
				step = straight
			}
			next := spot
			next[strings.IndexByte("rlud", step)/2] += map[byte]int{'r': 1, 'l': -1, 'u': 1, 'd': -1}[step]
			if next[0] < low[0] || next[0] > high[0] || next[1] < low[1] || next[1] > high[1] {
				straight = "lrud"[state>>16&3]
				continue
			}
			s, spot, straight = append(s, step), next, step
		}
		paths = append(paths, string(s))
	}
	return paths
}

// edgePaths go along the edges of the grid.
func edgePaths() []string {
	right, left, up, down := long("r", 24), long("l", 24), long("u", 24), long("d", 24)
	paths := []string{long("l", 12), long("r", 12), long("u", 12), long("d", 12)}
	return append(paths, wayTo(12, 12)+left+down+right+up, wayTo(-12, -12)+right+up+left+down, wayTo(12, -12)+up+left+down+right,
		wayTo(-12, 12)+down+right+up+left, long("r", 12)+long("lr", 194), wayTo(0, 12)+long("rl", 190)+"r", wayTo(0, -12)+left[:12]+right+left[:12])
}

// loopPaths are the loops of letters, one behind the other, and of long words.
func loopPaths() []string {
	paths := []string{long("rurdll", 64), long("rurdll", 65), "ru" + long("rl", 32), "ru" + long("rl", 32) + "r", "ru" + long("rl", 199),
		"ru" + long("rdlu", 99) + "r", "r" + long("ruld", 99) + "rul", "rrru" + long("rrdllu", 60), "ru" + long("rrrrrrllllll", 33)}
	for _, w := range [][]int{{1}, {-1}, {2, -3}, {6, -6}, {1, 2, -1, -2}, {3, 3, 3}, {4, -5, 4, -5, -4}, repeated(6, 25), repeated(-1, 64), {1, 2, 3, 4, 5, 6}} {
		s := ""
		for _, letter := range w {
			s += wantLoop(letter)
		}
		paths = append(paths, s)
	}
	return paths
}

// wantLoop is the loop of a letter; that of an opposite is the way back.
func wantLoop(letter int) string {
	if letter < 0 {
		return backward(wantLoop(-letter))
	}
	return long("r", letter) + "urd" + long("l", letter) + "l"
}

// knownPaths are the paths that tests of all functions of chapter 10 share.
func knownPaths() []string {
	paths := append(shortPaths(5), wanderings()...)
	for _, s := range wanderings() {
		if closed := closedBy(s); len(closed) <= impl.MaxPath {
			paths = append(paths, closed, closed+backward(closed)[:min(len(closed), impl.MaxPath-len(closed))])
		}
	}
	return append(append(paths, edgePaths()...), loopPaths()...)
}

// loops are those of them that are closed.
func loops() []string {
	return slices.DeleteFunc(knownPaths(), func(s string) bool { return !isLoop(s) })
}

// noPaths are texts that are no paths: other bytes at all places, too many steps, and steps that
// leave the grid on each side and come back.
func noPaths() []string {
	texts := []string{
		" ", "x", "L", "R", "U", "D", "lrud ", " lrud", "lr ud", "lr\n", "\x00", "r\x00", "é", "r\xc3\xa9", "→", "rurdlL", "r,u", "LRUD", "a", "A", "1", "-",
		long("lr", 200) + "l", long("rl", 200) + "r", long("rurdll", 67), long("u", 401), long("rl", 5000), long("x", 400), long("lr", 199) + "lx", long(" ", 5000),
		long("l", 13), long("l", 13) + long("r", 13), long("r", 13) + long("l", 13), long("u", 13) + long("d", 13), long("d", 13) + long("u", 13),
		long("u", 26), long("d", 400), wayTo(12, 12) + "rl", wayTo(12, 12) + "ud", wayTo(-12, 12) + "lr", wayTo(-12, -12) + "du", wayTo(12, -12) + "rl",
		wayTo(5, 12) + "udlr", wayTo(12, 5) + "rldu", wayTo(-12, 5) + "lrud", wayTo(5, -12) + "durl", long("r", 12) + long("rl", 194), long("rl", 193) + long("l", 13),
		long("lr", 193) + long("u", 13) + "d", long("ud", 200) + "x", "x" + long("ud", 200), long("ud", 200) + "\xff",
	}
	for b := range 256 {
		if !strings.Contains("lrud", string([]byte{byte(b)})) {
			texts = append(texts, string([]byte{byte(b)}), string([]byte{'r', byte(b), 'u'}))
		}
	}
	return texts
}

// pathCall calls a function of one path.
type pathCall struct {
	name string
	call func(s string) outcome
}

// pathCalls are the functions of one path of chapter 10, some with numbers that are valid for some
// paths.
func pathCalls() []pathCall {
	calls := []pathCall{
		{"EndOf", func(s string) outcome { a, ok := impl.EndOf(s); return outcomeOf(a, ok) }},
		{"IsClosed", func(s string) outcome { a, ok := impl.IsClosed(s); return outcomeOf(a, ok) }},
		{"ReadPath", func(s string) outcome { a, ok := impl.ReadPath(s); return outcomeOf(a, ok) }},
		{"ReversePath", func(s string) outcome { a, ok := impl.ReversePath(s); return outcomeOf(a, ok) }},
		{"ShrinkPath", func(s string) outcome { a, ok := impl.ShrinkPath(s); return outcomeOf(a, ok) }},
		{"FlipPath", func(s string) outcome { a, ok := impl.FlipPath(s); return outcomeOf(a, ok) }},
		{"FreeCorners", func(s string) outcome { a, ok := impl.FreeCorners(s); return outcomeOf(a, ok) }},
		{"BoxOf", func(s string) outcome { a, ok := impl.BoxOf(s); return outcomeOf(a, ok) }},
		{"VisitsOf", func(s string) outcome { a, ok := impl.VisitsOf(s); return outcomeOf(numbersOf(a), ok) }},
	}
	for _, i := range []int{0, 1, 2, 3, 10, 398} {
		calls = append(calls, pushCall(i))
	}
	for n := 1; n <= 6; n++ {
		calls = append(calls, turnsCall(n))
	}
	return calls
}

func pushCall(i int) pathCall {
	return pathCall{"PushCorner " + strconv.Itoa(i), func(s string) outcome {
		a, free, ok := impl.PushCorner(s, i)
		return outcomeOf(a, free, ok)
	}}
}

func turnsCall(n int) pathCall {
	return pathCall{"TurnsAround " + strconv.Itoa(n), func(s string) outcome {
		a, ok := impl.TurnsAround(s, n)
		return outcomeOf(a, ok)
	}}
}

// numbersOf are the numbers of all Visits, one behind the other.
func numbersOf(visits []impl.Visit) []int {
	numbers := []int{}
	for _, v := range visits {
		numbers = append(numbers, v.X, v.Y, v.Times)
	}
	return numbers
}

func loopPathCall() wordCall {
	return wordCall{"LoopPath", func(u, _ []int) outcome { a, ok := impl.LoopPath(u); return outcomeOf(a, ok) }}
}

// wantText checks the result of a function that returns a text.
func wantText(t *testing.T, got string, ok bool, want string, call ...any) {
	t.Helper()
	if !ok || got != want {
		t.Errorf("%v = %q, %v, not %q", call, got, ok, want)
	}
}

// wantNoText checks that such a function has failed.
func wantNoText(t *testing.T, got string, ok bool, call ...any) {
	t.Helper()
	if ok || got != "" {
		t.Errorf("%v = %q, %v, although it fails", call, got, ok)
	}
}

// checkVisits checks Visits, each told by its X, its Y and its Times.
func checkVisits(t *testing.T, got []impl.Visit, ok bool, want [][3]int, call ...any) {
	t.Helper()
	if !ok || !slices.EqualFunc(got, want, func(v impl.Visit, told [3]int) bool { return [3]int{v.X, v.Y, v.Times} == told }) {
		t.Errorf("%v = %v, %v, not %v", call, got, ok, want)
	}
}
