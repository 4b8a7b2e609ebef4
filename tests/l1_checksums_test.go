package tests

import (
	"strconv"
	"strings"
	"testing"

	"loop.example/g01206/impl"
)

// wantSum is the checksum as a sum: 7 and each byte and 1, times 41 for each byte behind it.
func wantSum(s string) int {
	sum, power := 0, 1
	for i := len(s) - 1; i >= 0; i-- {
		sum = (sum + (int(s[i])+1)*power) % 999979
		power = power * 41 % 999979
	}
	return (sum + 7*power) % 999979
}

// checkedTexts are texts for which AppendChecksum does not fail.
func checkedTexts() []string {
	return []string{
		"", "a", "b", "ab", "ba", "0", "1", "385", "-", "a@b", "turn 1@a", "\x00", "\x00\x00", "\xff", "\xff\xff",
		"é", "日本", "\x80\x81", "one\ntwo", strings.Repeat("x", 30), strings.Repeat("\xff", 30), `"$!`, "a$385",
	}
}

// sealedLongest returns a text whose checksum has the number of digits and that has so many
// bytes that the result of AppendChecksum has the length.
func sealedLongest(t *testing.T, length int, digits int) string {
	t.Helper()
	size := length - len("#") - digits
	for c := range 256 {
		s := string([]byte{byte(c)}) + strings.Repeat("v", size-1)
		if c != '#' && len(strconv.Itoa(wantSum(s))) == digits {
			return s
		}
	}
	t.Fatal("no text with that many digits", digits)
	return ""
}

func TestChecksum(t *testing.T) {
	if n, ok := impl.Checksum("a"); !ok || n != 385 {
		t.Errorf("the document's example: %d, %v", n, ok)
	}
	if n, ok := impl.Checksum(""); !ok || n != 7 {
		t.Errorf("the empty text: %d, %v", n, ok)
	}
	texts := append(checkedTexts(), "#", "a#385", "##", "a#b#c", "\n", strings.Repeat("#", 50))
	for c := range 256 {
		texts = append(texts, string([]byte{byte(c)}), string([]byte{'x', byte(c), 'y', byte(255 - c)}))
	}
	for _, s := range texts {
		if n, ok := impl.Checksum(s); !ok || n != wantSum(s) {
			t.Errorf("Checksum(%q) = %d, %v, not %d", s, n, ok, wantSum(s))
		}
	}
}

func TestChecksumStopsAtMaxString(t *testing.T) {
	for _, c := range []string{"a", "\xff", "\x00", "#"} {
		whole := strings.Repeat(c, impl.MaxString)
		if n, ok := impl.Checksum(whole); !ok || n != wantSum(whole) {
			t.Errorf("MaxString bytes %q: %d, %v", c, n, ok)
		}
		if n, ok := impl.Checksum(whole + c); ok || n != 0 {
			t.Errorf("one byte %q more: %d, %v", c, n, ok)
		}
	}
	// MaxString is a number of bytes: these are fewer signs than it, but more bytes.
	if n, ok := impl.Checksum(strings.Repeat("é", 2001)); ok || n != 0 {
		t.Errorf("2001 signs of two bytes: %d, %v", n, ok)
	}
}

func TestAppendAndVerifyChecksumAreInverse(t *testing.T) {
	if s, ok := impl.AppendChecksum("a"); !ok || s != "a#385" {
		t.Errorf("the document's example: %q, %v", s, ok)
	}
	if s, ok := impl.AppendChecksum(""); !ok || s != "#7" {
		t.Errorf("the empty text: %q, %v", s, ok)
	}
	for _, s := range checkedTexts() {
		sealed, ok := impl.AppendChecksum(s)
		if !ok || sealed != s+"#"+strconv.Itoa(wantSum(s)) {
			t.Errorf("AppendChecksum(%q) = %q, %v", s, sealed, ok)
		}
		if back, ok := impl.VerifyChecksum(sealed); !ok || back != s {
			t.Errorf("VerifyChecksum(%q) = %q, %v", sealed, back, ok)
		}
	}
}

func TestMarksInsideAreRefused(t *testing.T) {
	for _, s := range []string{"#", "##", "a#", "#a", "a#b", "a#385", "\xff#", strings.Repeat("x", 3000) + "#"} {
		if sealed, ok := impl.AppendChecksum(s); ok || sealed != "" {
			t.Errorf("AppendChecksum(%q) = %q, %v", s, sealed, ok)
		}
		whole := s + "#" + strconv.Itoa(wantSum(s))
		if back, ok := impl.VerifyChecksum(whole); ok || back != "" {
			t.Errorf("VerifyChecksum(%q) = %q, %v", whole, back, ok)
		}
	}
}

func TestVerifyChecksumRefusesOtherTexts(t *testing.T) {
	refused := []string{
		"", "#", "a", "7", "#0", "#07", "#8", "#-7", "#+7", "#7 ", " #7", "#7#", "##7", "#7#7", "#1000000",
		"a#384", "a#386", "a#", "a#0385", "a#+385", "a#-385", "a#385 ", "a# 385", "a#385\n", "a#3850", "a#38",
		"b#385", "A#385", "a385", "a#385#", "a#385#1", "a#a", "a##385", "a#1000364", "a#385\x00", "\xff", "385#a",
		"a#385" + strings.Repeat("0", 5000),
	}
	for _, s := range refused {
		if back, ok := impl.VerifyChecksum(s); ok || back != "" {
			t.Errorf("VerifyChecksum(%q) = %q, %v", s, back, ok)
		}
	}
	// The checksum and the modulus together leave the same rest, but are not the checksum.
	for _, s := range checkedTexts() {
		for _, n := range []int{wantSum(s) + 999979, wantSum(s) - 999979} {
			if back, ok := impl.VerifyChecksum(s + "#" + strconv.Itoa(n)); ok || back != "" {
				t.Errorf("the sum %d for %q: %q", n, s, back)
			}
		}
	}
}

func TestAppendChecksumStopsAtMaxString(t *testing.T) {
	for _, digits := range []int{5, 6} {
		s := sealedLongest(t, impl.MaxString, digits)
		sealed, ok := impl.AppendChecksum(s)
		if !ok || len(sealed) != impl.MaxString || sealed != s+"#"+strconv.Itoa(wantSum(s)) {
			t.Errorf("a result of MaxString bytes with %d digits: %d bytes, %v", digits, len(sealed), ok)
		}
		if back, ok := impl.VerifyChecksum(sealed); !ok || back != s {
			t.Errorf("opened with %d digits: %d bytes, %v", digits, len(back), ok)
		}
		s = sealedLongest(t, impl.MaxString+1, digits)
		if sealed, ok := impl.AppendChecksum(s); ok || sealed != "" {
			t.Errorf("a result of one byte more with %d digits: %d bytes, %v", digits, len(sealed), ok)
		}
		if back, ok := impl.VerifyChecksum(s + "#" + strconv.Itoa(wantSum(s))); ok || back != "" {
			t.Errorf("opened one byte more with %d digits: %d bytes, %v", digits, len(back), ok)
		}
	}
	for _, length := range []int{impl.MaxString - 1, impl.MaxString, impl.MaxString + 1, 3 * impl.MaxString} {
		s := strings.Repeat("x", length)
		if sealed, ok := impl.AppendChecksum(s); ok || sealed != "" {
			t.Errorf("a text of %d bytes: %d bytes, %v", length, len(sealed), ok)
		}
		if back, ok := impl.VerifyChecksum(s + "#" + strconv.Itoa(wantSum(s))); ok || back != "" {
			t.Errorf("opened a text of %d bytes: %d bytes, %v", length, len(back), ok)
		}
	}
}

func TestEachChangedByteIsDetected(t *testing.T) {
	for _, s := range checkedTexts() {
		sealed, ok := impl.AppendChecksum(s)
		if !ok {
			t.Fatalf("AppendChecksum(%q) failed", s)
		}
		for place := range len(sealed) {
			for c := range 256 {
				refuseChange(t, sealed, place, byte(c))
			}
		}
	}
}

// In the longest text each place is changed, but not to every byte: that would take minutes.
func TestEachChangedPlaceOfTheLongestTextIsDetected(t *testing.T) {
	sealed, ok := impl.AppendChecksum(sealedLongest(t, impl.MaxString, 6))
	if !ok {
		t.Fatal("AppendChecksum failed")
	}
	for place := range len(sealed) {
		for _, c := range []byte{0, '#', '0', sealed[place] + 1, sealed[place] ^ 128, 255} {
			refuseChange(t, sealed, place, c)
		}
	}
}

// refuseChange changes one byte of a checksummed text, where it is another one.
func refuseChange(t *testing.T, sealed string, place int, c byte) {
	t.Helper()
	if sealed[place] == c {
		return
	}
	changed := sealed[:place] + string([]byte{c}) + sealed[place+1:]
	if back, ok := impl.VerifyChecksum(changed); ok || back != "" {
		t.Errorf("byte %d of %q changed to %d: %q, %v", place, sealed, c, back, ok)
	}
}
