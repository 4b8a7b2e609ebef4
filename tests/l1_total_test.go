package tests

import (
	"math"
	"slices"
	"strings"
	"testing"

	"loop.example/g01206/impl"
)

// oddTexts are texts of all kinds, valid for some functions and for others not.
func oddTexts() []string {
	return []string{
		"", "a", "#", "-", "-0", "0", "a#385", "a,b", ",", "\x00", "\xff", "\xc3", "é", "日本", "a\nb",
		strings.Repeat("9", 100), strings.Repeat("a", impl.MaxString), strings.Repeat(",", impl.MaxString),
		strings.Repeat("#", impl.MaxString+1), strings.Repeat("\xff", 3*impl.MaxString),
	}
}

// A function that fails has zero values as its other results, whatever its arguments are.
func TestFunctionsOfOneTextReturn(t *testing.T) {
	for _, s := range oddTexts() {
		if n, ok := impl.ParseInt(s); !ok && n != 0 {
			t.Errorf("ParseInt(%q) fails with %d", s, n)
		}
		if n, ok := impl.Checksum(s); !ok && n != 0 || ok != (len(s) <= impl.MaxString) {
			t.Errorf("Checksum(%q) = %d, %v", s, n, ok)
		}
		if sealed, ok := impl.AppendChecksum(s); !ok && sealed != "" {
			t.Errorf("AppendChecksum(%q) fails with %q", s, sealed)
		}
		if back, ok := impl.VerifyChecksum(s); !ok && back != "" {
			t.Errorf("VerifyChecksum(%q) fails with %q", s, back)
		}
	}
}

func TestFunctionsOfTwoTextsReturn(t *testing.T) {
	for _, s := range oddTexts() {
		for _, x := range oddTexts() {
			parts, ok := impl.SplitString(s, x)
			if ok != (len(s) <= impl.MaxString && len(x) == 1) || !ok && len(parts) != 0 {
				t.Errorf("SplitString(%q, %q) = %q, %v", s, x, parts, ok)
			}
			for _, list := range [][]string{nil, {s}, {s, ""}, {s, s}, {"", s, "a"}} {
				if text, ok := impl.JoinStrings(list, x); !ok && text != "" {
					t.Errorf("JoinStrings(%q, %q) fails with %q", list, x, text)
				}
			}
			if impl.LessString(s, x) != (strings.Compare(s, x) < 0) {
				t.Errorf("LessString(%q, %q)", s, x)
			}
		}
	}
}

func TestFormatIntReturnsForAllSizes(t *testing.T) {
	for shift := range 64 {
		for _, n := range []int{1 << shift, -(1 << shift), 1<<shift - 1, math.MaxInt - 1<<shift, math.MinInt + 1<<shift} {
			s, ok := impl.FormatInt(n)
			inside := n >= -impl.MaxDecimal && n <= impl.MaxDecimal
			if ok != inside || !ok && s != "" {
				t.Errorf("FormatInt(%d) = %q, %v", n, s, ok)
			}
		}
	}
}

func TestJoinStringsLeavesItsPartsAlone(t *testing.T) {
	for _, sep := range []string{",", "b", "", ",,"} {
		room := []string{"x", "a", "", "b", "y", "z"}
		before := slices.Clone(room)
		first, fine := impl.JoinStrings(room[1:4], sep)
		second, again := impl.JoinStrings(room[1:4], sep)
		if !slices.Equal(room, before) {
			t.Errorf("JoinStrings with %q changed %q to %q", sep, before, room)
		}
		if first != second || fine != again {
			t.Errorf("JoinStrings with %q twice: %q and %q", sep, first, second)
		}
	}
}

func TestSplitStringResultsAreTheirOwn(t *testing.T) {
	first, _ := impl.SplitString("a,,b", ",")
	second, _ := impl.SplitString("a,,b", ",")
	first[0], first[1] = "x", "y"
	_ = append(first[:1], "z")
	if want := []string{"a", "", "b"}; !slices.Equal(second, want) {
		t.Errorf("a result changed with another one: %q", second)
	}
	if third, ok := impl.SplitString("a,,b", ","); !ok || !slices.Equal(third, second) {
		t.Errorf("the same arguments, another result: %q", third)
	}
}
