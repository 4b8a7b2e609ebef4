package tests

import (
	"math"
	"slices"
	"strconv"
	"strings"
	"testing"

	"loop.example/g01206/impl"
)

func TestFormatIntWritesEveryNumberInBounds(t *testing.T) {
	for n := -impl.MaxDecimal; n <= impl.MaxDecimal; n++ {
		s, ok := impl.FormatInt(n)
		if !ok || s != strconv.Itoa(n) {
			t.Fatalf("FormatInt(%d) = %q, %v", n, s, ok)
		}
		m, ok := impl.ParseInt(s)
		if !ok || m != n {
			t.Fatalf("ParseInt(%q) = %d, %v", s, m, ok)
		}
	}
}

func TestFormatIntKnownTexts(t *testing.T) {
	if impl.MaxDecimal != 999999 {
		t.Fatal("MaxDecimal", impl.MaxDecimal)
	}
	known := map[int]string{
		0: "0", 1: "1", -1: "-1", 10: "10", -12: "-12", 100000: "100000",
		999999: "999999", -999999: "-999999", 999998: "999998", -999998: "-999998",
	}
	for n, want := range known {
		if s, ok := impl.FormatInt(n); !ok || s != want {
			t.Errorf("FormatInt(%d) = %q, %v", n, s, ok)
		}
		if m, ok := impl.ParseInt(want); !ok || m != n {
			t.Errorf("ParseInt(%q) = %d, %v", want, m, ok)
		}
	}
}

func TestFormatIntRefusesNumbersOutOfBounds(t *testing.T) {
	for _, n := range []int{1000000, -1000000, 1000001, 1 << 32, -(1 << 32), math.MaxInt, math.MinInt, math.MinInt + 1} {
		if s, ok := impl.FormatInt(n); ok || s != "" {
			t.Errorf("FormatInt(%d) = %q, %v", n, s, ok)
		}
	}
}

func TestParseIntRefusesOtherTexts(t *testing.T) {
	refused := []string{
		"", "-", "+", "-0", "+0", "00", "01", "-01", "007", "0000000", "+1", "+12", "--1", "+-1", "-+1",
		"1-", "1-2", "1+2", "-1-", " 1", "1 ", "1 2", "\t1", "1\n", "1x", "x1", "a", "1.0", "1,000", "1_000",
		"1e3", "0x1", "0b1", "\x00", "1\x00", "\xff", "\xb1", "١", "１", "−1", "/", ":", "1/", "1:",
		"1000000", "-1000000", "9999990", "0999999", "-0999999", "12345678",
		"9223372036854775807", "-9223372036854775808", "9223372036854775808", "18446744073709551617",
		"4294967297", strings.Repeat("0", 5000) + "1", strings.Repeat("9", 5000), "-" + strings.Repeat("1", 400),
	}
	for _, s := range refused {
		if n, ok := impl.ParseInt(s); ok || n != 0 {
			t.Errorf("ParseInt(%q) = %d, %v", s, n, ok)
		}
	}
}

func TestParseIntTakesOnlyDigitsAtEachPlace(t *testing.T) {
	for place := range 3 {
		for c := range 256 {
			b := []byte("123")
			b[place] = byte(c)
			n, ok := impl.ParseInt(string(b))
			digit := c >= '0' && c <= '9' && (place > 0 || c != '0')
			sign := place == 0 && c == '-'
			if ok != (digit || sign) || !ok && n != 0 {
				t.Errorf("ParseInt(%q) = %d, %v", b, n, ok)
			}
			if s, fine := impl.FormatInt(n); ok && (!fine || s != string(b)) {
				t.Errorf("ParseInt(%q) = %d, written %q", b, n, s)
			}
		}
	}
}

type splitCase struct {
	text  string
	sep   string
	parts []string
}

func splitCases() []splitCase {
	return []splitCase{
		{"", ",", []string{""}},
		{"a", ",", []string{"a"}},
		{"a,,b", ",", []string{"a", "", "b"}},
		{",", ",", []string{"", ""}},
		{",,,", ",", []string{"", "", "", ""}},
		{",a", ",", []string{"", "a"}},
		{"a,", ",", []string{"a", ""}},
		{",a,", ",", []string{"", "a", ""}},
		{",,a,b,,", ",", []string{"", "", "a", "b", "", ""}},
		{"a;b,c", ";", []string{"a", "b,c"}},
		{" a  b ", " ", []string{"", "a", "", "b", ""}},
		{"one\ntwo\n", "\n", []string{"one", "two", ""}},
		{"a\x00b", "\x00", []string{"a", "b"}},
		{"a\xffb\xff\xfe", "\xff", []string{"a", "b", "\xfe"}},
		{"é", "\xa9", []string{"\xc3", ""}},
		{"日,本", ",", []string{"日", "本"}},
	}
}

func TestSplitAndJoinAreInverse(t *testing.T) {
	for _, c := range splitCases() {
		parts, ok := impl.SplitString(c.text, c.sep)
		if !ok || !slices.Equal(parts, c.parts) {
			t.Errorf("SplitString(%q, %q) = %q, %v", c.text, c.sep, parts, ok)
		}
		text, ok := impl.JoinStrings(c.parts, c.sep)
		if !ok || text != c.text {
			t.Errorf("JoinStrings(%q, %q) = %q, %v", c.parts, c.sep, text, ok)
		}
	}
	if s, ok := impl.JoinStrings([]string{"a", "", "b"}, ";"); !ok || s != "a;;b" {
		t.Errorf("joined %q, %v", s, ok)
	}
}

func TestSplitAndJoinTakeEachByteAsSeparator(t *testing.T) {
	var all strings.Builder
	for c := range 256 {
		all.WriteByte(byte(c))
	}
	for c := range 256 {
		sep := string([]byte{byte(c)})
		want := []string{all.String()[:c], all.String()[c+1:]}
		parts, ok := impl.SplitString(all.String(), sep)
		if !ok || !slices.Equal(parts, want) {
			t.Fatalf("split at byte %d: %q, %v", c, parts, ok)
		}
		if text, ok := impl.JoinStrings(parts, sep); !ok || text != all.String() {
			t.Fatalf("joined at byte %d: %q, %v", c, text, ok)
		}
	}
}

// Every text of at most six bytes a and comma, so that no place of a separator is missed.
func TestSplitAndJoinOfAllShortTexts(t *testing.T) {
	for length := range 7 {
		for bits := range 1 << length {
			b := []byte{}
			for i := range length {
				b = append(b, "a,"[bits>>i&1])
			}
			text := string(b)
			parts, ok := impl.SplitString(text, ",")
			if !ok || len(parts) != strings.Count(text, ",")+1 || !slices.Equal(parts, strings.Split(text, ",")) {
				t.Fatalf("SplitString(%q) = %q, %v", text, parts, ok)
			}
			if back, ok := impl.JoinStrings(parts, ","); !ok || back != text {
				t.Fatalf("JoinStrings(%q) = %q, %v", parts, back, ok)
			}
		}
	}
}

func TestSplitAndJoinRefuseOtherSeparators(t *testing.T) {
	for _, sep := range []string{"", ",,", ",;", "é", "日", "abc", strings.Repeat(",", 5000)} {
		for _, text := range []string{"", "a", "a,b", "a,,b", sep, "a" + sep + "b"} {
			if parts, ok := impl.SplitString(text, sep); ok || len(parts) != 0 {
				t.Errorf("SplitString(%q, %q) = %q, %v", text, sep, parts, ok)
			}
		}
		for _, parts := range [][]string{{""}, {"a"}, {"a", "b"}, {}, nil} {
			if text, ok := impl.JoinStrings(parts, sep); ok || text != "" {
				t.Errorf("JoinStrings(%q, %q) = %q, %v", parts, sep, text, ok)
			}
		}
	}
}

func TestJoinRefusesNoElements(t *testing.T) {
	for _, parts := range [][]string{nil, {}} {
		if s, ok := impl.JoinStrings(parts, ","); ok || s != "" {
			t.Errorf("JoinStrings(%q) = %q, %v", parts, s, ok)
		}
	}
}

func TestJoinRefusesSeparatorsInside(t *testing.T) {
	refused := [][]string{
		{","}, {"a,"}, {",a"}, {"a,b"}, {"a", "b,c"}, {"a,b", "c"}, {"a", "b", "c", "d,"}, {"", ",", ""},
	}
	for _, parts := range refused {
		if s, ok := impl.JoinStrings(parts, ","); ok || s != "" {
			t.Errorf("JoinStrings(%q) = %q, %v", parts, s, ok)
		}
		if s, ok := impl.JoinStrings(parts, ";"); !ok || s != strings.Join(parts, ";") {
			t.Errorf("JoinStrings(%q) with ; = %q, %v", parts, s, ok)
		}
	}
	if s, ok := impl.JoinStrings([]string{"a\xffb", "c"}, "\xff"); ok || s != "" {
		t.Errorf("a separator above 127 inside: %q, %v", s, ok)
	}
	if s, ok := impl.JoinStrings([]string{"é", "c"}, "\xa9"); ok || s != "" {
		t.Errorf("a separator that is a part of a sign: %q, %v", s, ok)
	}
}

func TestSplitStopsAtMaxString(t *testing.T) {
	if impl.MaxString != 4000 {
		t.Fatal("MaxString", impl.MaxString)
	}
	for _, unit := range []string{",", "a", "a,", "abc,", "é,b"} {
		text := strings.Repeat(unit, impl.MaxString/len(unit))
		parts, ok := impl.SplitString(text, ",")
		if !ok || !slices.Equal(parts, strings.Split(text, ",")) {
			t.Errorf("a text of MaxString bytes of %q: %d parts, %v", unit, len(parts), ok)
		}
		if back, ok := impl.JoinStrings(parts, ","); !ok || back != text {
			t.Errorf("joined to MaxString bytes of %q: %d bytes, %v", unit, len(back), ok)
		}
		for _, more := range []string{"a", ","} {
			if parts, ok := impl.SplitString(text+more, ","); ok || len(parts) != 0 {
				t.Errorf("a text of one byte more of %q: %d parts, %v", unit, len(parts), ok)
			}
		}
	}
	if parts, ok := impl.SplitString(strings.Repeat("a", 1<<20), ","); ok || len(parts) != 0 {
		t.Errorf("a very long text: %d parts, %v", len(parts), ok)
	}
}

func TestJoinStopsAtMaxString(t *testing.T) {
	half := strings.Repeat("x", impl.MaxString/2)
	whole := strings.Repeat("x", impl.MaxString)
	taken := [][]string{{whole}, {half, half[1:]}, {whole[1:], ""}, {"", whole[1:]}, make([]string, impl.MaxString+1)}
	for i, parts := range taken {
		s, ok := impl.JoinStrings(parts, ",")
		if !ok || len(s) != impl.MaxString || s != strings.Join(parts, ",") {
			t.Errorf("taken %d: %d bytes, %v", i, len(s), ok)
		}
		if back, ok := impl.SplitString(s, ","); !ok || !slices.Equal(back, parts) {
			t.Errorf("split again %d: %d parts, %v", i, len(back), ok)
		}
	}
	refused := [][]string{
		{whole + "x"}, {half, half}, {whole, ""}, {"", whole}, {whole, whole}, {half, half[1:], ""},
		make([]string, impl.MaxString+2), make([]string, 1<<20),
	}
	for i, parts := range refused {
		if s, ok := impl.JoinStrings(parts, ","); ok || s != "" {
			t.Errorf("refused %d: %d bytes, %v", i, len(s), ok)
		}
	}
}

func TestLessString(t *testing.T) {
	ascending := []string{
		"", "\x00", "\x00\x00", "\x00a", " ", "10", "2", "A", "Z", "a", "a\x00", "aa", "ab", "abc", "b", "ba",
		"\x7f", "\x7f\xff", "\x80", "\x80\x00", "é", "日", "\xfe", "\xff", "\xff\x00", "\xff\xff",
	}
	for i, a := range ascending {
		for j, b := range ascending {
			if impl.LessString(a, b) != (i < j) {
				t.Errorf("LessString(%q, %q) is not %v", a, b, i < j)
			}
		}
	}
	for c := range 256 {
		for d := range 256 {
			a, b := "x"+string([]byte{byte(c)})+"z", "x"+string([]byte{byte(d)})+"a"
			if impl.LessString(a, b) != (c < d) {
				t.Errorf("LessString(%q, %q) is not %v", a, b, c < d)
			}
		}
	}
	long := strings.Repeat("x", 2*impl.MaxString)
	if !impl.LessString(long, long+"a") || impl.LessString(long+"a", long) || impl.LessString(long, long) {
		t.Error("long texts")
	}
}
