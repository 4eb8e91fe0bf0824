package tests

import (
	"math"
	"slices"
	"strconv"
	"strings"
	"testing"

	"loop.example/g01159/impl"
)

// wordsOver lists all strings of at most size bytes over the bytes of an alphabet.
func wordsOver(alphabet string, size int) []string {
	words := []string{""}
	for first := 0; size > 0; size-- {
		end := len(words)
		for _, w := range words[first:end] {
			for i := range len(alphabet) {
				words = append(words, w+alphabet[i:i+1])
			}
		}
		first = end
	}
	return words
}

// everyByte has each of the 256 bytes once.
func everyByte() string {
	all := make([]byte, 256)
	for i := range all {
		all[i] = byte(i)
	}
	return string(all)
}

// Promise 1, decimal formatting: every number in the bounds comes back, and no two share a text.
func TestEveryDecimalRoundTrips(t *testing.T) {
	for n := -impl.MaxDecimal; n <= impl.MaxDecimal; n++ {
		s, ok := impl.FormatInt(n)
		if !ok || s != strconv.Itoa(n) {
			t.Fatalf("FormatInt(%d) = %q, %v", n, s, ok)
		}
		if m, ok := impl.ParseInt(s); !ok || m != n {
			t.Fatalf("ParseInt(%q) = %d, %v", s, m, ok)
		}
	}
}

func TestFormatIntRejectsNumbersOutOfBounds(t *testing.T) {
	for _, n := range []int{1000000, -1000000, math.MaxInt, math.MinInt, math.MinInt + 1, 1 << 32, -1 << 32} {
		if s, ok := impl.FormatInt(n); ok || s != "" {
			t.Errorf("FormatInt(%d) = %q, %v", n, s, ok)
		}
	}
}

// Promise 1: ParseInt accepts exactly what FormatInt writes, here among all short strings.
func TestParseIntAcceptsJustWhatFormatIntWrites(t *testing.T) {
	written := map[string]int{}
	for n := -99999; n <= 99999; n++ {
		s, _ := impl.FormatInt(n)
		written[s] = n
	}
	for _, s := range wordsOver("-+0129 /:x", 5) {
		want, is := written[s]
		if n, ok := impl.ParseInt(s); ok != is || n != want {
			t.Fatalf("ParseInt(%q) = %d, %v; want %d, %v", s, n, ok, want, is)
		}
	}
}

func TestParseIntRejectsOtherTexts(t *testing.T) {
	texts := []string{
		"", "-", "+1", "-0", "00", "01", "-01", "--1", "1-", " 1", "1 ", "1\n", "1\x00", "1.0", "1e3", "0x1", "1_000",
		"1000000", "-1000000", "9999999", "0999999", "0000001", "9999990", "99999900",
		"18446744073709551617", "-18446744073709551617", "9223372036854775808", "36893488147419103233",
		"\uff11", "1\u0660", "\xff", "１２",
		strings.Repeat("0", 5000) + "1", strings.Repeat("9", 5000), strings.Repeat("-", 5000), strings.Repeat("1", 100000),
	}
	for _, s := range texts {
		if n, ok := impl.ParseInt(s); ok || n != 0 {
			t.Errorf("ParseInt(%.40q) = %d, %v", s, n, ok)
		}
	}
}

func TestSplitStringGivesWhatIsBetweenSeparators(t *testing.T) {
	cases := []struct {
		s, sep string
		want   []string
	}{
		{"a,,b", ",", []string{"a", "", "b"}},
		{"", ",", []string{""}},
		{",", ",", []string{"", ""}},
		{",a,", ",", []string{"", "a", ""}},
		{"abc", ",", []string{"abc"}},
		{"a b\nc", "\n", []string{"a b", "c"}},
		{"a\x00b", "\x00", []string{"a", "b"}},
		{"\u00e9\u00e9", "\xa9", []string{"\xc3", "\xc3", ""}},
		{"x\xffy\xfe", "\xff", []string{"x", "y\xfe"}},
	}
	for _, c := range cases {
		if got, ok := impl.SplitString(c.s, c.sep); !ok || !slices.Equal(got, c.want) {
			t.Errorf("SplitString(%q, %q) = %q, %v", c.s, c.sep, got, ok)
		}
	}
}

func TestSplitStringRejectsBadArguments(t *testing.T) {
	long := strings.Repeat(",", impl.MaxString)
	if parts, ok := impl.SplitString(long, ","); !ok || len(parts) != impl.MaxString+1 {
		t.Error("longest string", len(parts), ok)
	}
	cases := [][2]string{
		{long + ",", ","}, {long + "a", "b"}, {"a", ""}, {"", ""}, {"a,,b", ",,"}, {"\u00e9", "\u00e9"}, {long + "a", ""},
	}
	for _, c := range cases {
		if parts, ok := impl.SplitString(c[0], c[1]); ok || len(parts) != 0 {
			t.Errorf("SplitString(%.20q, %q) = %.40q, %v", c[0], c[1], parts, ok)
		}
	}
}

// Promise 1, splitting: a string that is split and joined is the string again.
func TestSplitThenJoin(t *testing.T) {
	words := append(wordsOver("a,\xff;", 5), everyByte(), strings.Repeat(",a", impl.MaxString/2), strings.Repeat("a", impl.MaxString))
	for _, s := range words {
		for _, sep := range []string{",", ";", "\xff", "#"} {
			parts, ok := impl.SplitString(s, sep)
			if !ok || len(parts) != strings.Count(s, sep)+1 {
				t.Fatalf("SplitString(%.40q, %q) = %.40q, %v", s, sep, parts, ok)
			}
			if back, ok := impl.JoinStrings(parts, sep); !ok || back != s {
				t.Fatalf("JoinStrings(%.40q, %q) = %.40q, %v", parts, sep, back, ok)
			}
		}
	}
}

// Promise 1, splitting: what is joined at all is split into the same elements.
func TestJoinThenSplit(t *testing.T) {
	words := wordsOver("a;", 2)
	for _, a := range words {
		for _, b := range words {
			for _, parts := range [][]string{{a}, {a, b}, {a, b, a}} {
				within := strings.Contains(a, ";") || len(parts) > 1 && strings.Contains(b, ";")
				s, ok := impl.JoinStrings(parts, ";")
				if ok == within || within && s != "" {
					t.Fatalf("JoinStrings(%q) = %q, %v", parts, s, ok)
				}
				if !ok {
					continue
				}
				if back, ok := impl.SplitString(s, ";"); !ok || !slices.Equal(back, parts) {
					t.Fatalf("SplitString(%q) = %q, %v; want %q", s, back, ok, parts)
				}
			}
		}
	}
}

func TestJoinStringsRejectsBadArguments(t *testing.T) {
	cases := []struct {
		parts []string
		sep   string
	}{
		{nil, ","}, {[]string{}, ","}, {nil, ""},
		{[]string{"a", "b"}, ""}, {[]string{"a", "b"}, ",,"}, {[]string{"a"}, ""}, {[]string{"a"}, "\u00e9"},
		{[]string{"a,b"}, ","}, {[]string{"a", ","}, ","}, {[]string{",", "a"}, ","}, {[]string{"a", "b,"}, ","},
		{[]string{"\u00e9"}, "\xa9"},
	}
	for _, c := range cases {
		if s, ok := impl.JoinStrings(c.parts, c.sep); ok || s != "" {
			t.Errorf("JoinStrings(%q, %q) = %q, %v", c.parts, c.sep, s, ok)
		}
	}
}

// The separators count for the length of the result, too.
func TestJoinStringsKeepsToMaxString(t *testing.T) {
	half := strings.Repeat("a", impl.MaxString/2)
	cases := []struct {
		parts []string
		want  bool
	}{
		{[]string{half + half}, true},
		{[]string{half + half + "a"}, false},
		{[]string{half, half[1:]}, true},
		{[]string{half, half}, false},
		{[]string{half, half[2:], ""}, true},
		{[]string{half, half[1:], ""}, false},
		{make([]string, impl.MaxString+1), true},
		{make([]string, impl.MaxString+2), false},
		{make([]string, 10*impl.MaxString), false},
	}
	for i, c := range cases {
		s, ok := impl.JoinStrings(c.parts, ",")
		if ok != c.want || ok && s != strings.Join(c.parts, ",") || !ok && s != "" {
			t.Errorf("case %d: %d bytes, %v", i, len(s), ok)
		}
	}
}

func TestLessStringComparesBytes(t *testing.T) {
	words := append(wordsOver("\x00a\x7f\x80\xff", 3), strings.Repeat("a", 5000), strings.Repeat("a", 5001))
	for _, a := range words {
		for _, b := range words {
			if impl.LessString(a, b) != (slices.Compare([]byte(a), []byte(b)) < 0) {
				t.Fatalf("LessString(%.20q, %.20q)", a, b)
			}
		}
	}
}

func TestLessStringOnPrefixes(t *testing.T) {
	cases := []struct {
		a, b string
		want bool
	}{
		{"a", "ab", true}, {"ab", "a", false}, {"", "", false}, {"", "\x00", true}, {"\x00", "", false},
		{"a", "a", false}, {"Z", "a", true}, {"10", "9", true}, {"\u00e9", "z", false}, {"b", "ab", false},
	}
	for _, c := range cases {
		if impl.LessString(c.a, c.b) != c.want {
			t.Errorf("LessString(%q, %q) is not %v", c.a, c.b, c.want)
		}
	}
}

func TestChecksumOfKnownStrings(t *testing.T) {
	long := strings.Repeat("\xff", impl.MaxString)
	for _, s := range []string{"", "a", "#", "a#385", "\x00", "\x00\x00", "\xff", "ab", "ba", "\u00e9", everyByte(), long} {
		want := 7
		for _, c := range []byte(s) {
			want = (41*want + int(c) + 1) % 999979
		}
		if n, ok := impl.Checksum(s); !ok || n != want {
			t.Errorf("Checksum(%.20q) = %d, %v; want %d", s, n, ok, want)
		}
	}
	for s, want := range map[string]int{"": 7, "a": 385, "\x00": 288, "\xff": 543} {
		if n, ok := impl.Checksum(s); !ok || n != want {
			t.Errorf("Checksum(%q) = %d, %v; want %d", s, n, ok, want)
		}
	}
	for _, s := range []string{long + "a", long + long} {
		if n, ok := impl.Checksum(s); ok || n != 0 {
			t.Errorf("Checksum of %d bytes = %d, %v", len(s), n, ok)
		}
	}
}

func TestAppendChecksumRejectsMarks(t *testing.T) {
	if s, ok := impl.AppendChecksum(""); !ok || s != "#7" {
		t.Errorf("AppendChecksum of the empty string = %q, %v", s, ok)
	}
	for _, s := range []string{"#", "a#", "#a", "a#385", strings.Repeat("a", impl.MaxString+1) + "#"} {
		if x, ok := impl.AppendChecksum(s); ok || x != "" {
			t.Errorf("AppendChecksum(%.20q) = %.20q, %v", s, x, ok)
		}
	}
}

// It is the result, with the mark and the digits, that has at most MaxString bytes.
func TestAppendChecksumKeepsToMaxString(t *testing.T) {
	fits := map[bool]int{}
	for size := impl.MaxString - 12; size <= impl.MaxString+2; size++ {
		for _, c := range []string{"a", "b", "\x00", "\xff"} {
			s := strings.Repeat(c, size)
			sum, _ := impl.Checksum(s)
			sealed := s + "#" + strconv.Itoa(sum)
			want := len(sealed) <= impl.MaxString
			fits[want]++
			x, ok := impl.AppendChecksum(s)
			if ok != want || want && x != sealed || !want && x != "" {
				t.Fatalf("AppendChecksum of %d bytes: %d bytes, %v", size, len(x), ok)
			}
			back, ok := impl.VerifyChecksum(sealed)
			if ok != want || want && back != s || !want && back != "" {
				t.Fatalf("VerifyChecksum of %d bytes: %d bytes, %v", len(sealed), len(back), ok)
			}
		}
	}
	if fits[true] == 0 || fits[false] == 0 {
		t.Fatal("only one side of the limit was tried", fits)
	}
}

// Some text must reach the limit exactly, and still be sealed and opened.
func TestChecksumOfExactlyMaxString(t *testing.T) {
	for size := impl.MaxString - 7; size < impl.MaxString-1; size++ {
		for i := range 256 {
			s := strings.Repeat("a", size-1) + string([]byte{byte(i)})
			sealed, ok := impl.AppendChecksum(s)
			if !ok || len(sealed) != impl.MaxString {
				continue
			}
			if back, ok := impl.VerifyChecksum(sealed); !ok || back != s {
				t.Fatalf("VerifyChecksum of the longest string: %d bytes, %v", len(back), ok)
			}
			return
		}
	}
	t.Fatal("no sealed string of MaxString bytes")
}

// The guarantee of chapter 1 and promise 1: what is sealed is opened, and not with any other byte.
func TestEveryChangedByteIsDetected(t *testing.T) {
	texts := append(wordsOver("a\x00\xff", 3), "row", "0 load 3 4@0", "a\nb", "12 345", strings.Repeat("\xff\x00", 20))
	for _, s := range texts {
		sealed, ok := impl.AppendChecksum(s)
		if !ok {
			t.Fatalf("AppendChecksum(%q) fails", s)
		}
		if back, ok := impl.VerifyChecksum(sealed); !ok || back != s {
			t.Fatalf("VerifyChecksum(%q) = %q, %v", sealed, back, ok)
		}
		for i := range len(sealed) {
			expectChangesDetected(t, sealed, i, 1)
		}
	}
}

// A long text has places where a weak sum repeats itself; one byte of all is changed at each.
func TestChangedByteOfALongStringIsDetected(t *testing.T) {
	s := strings.ReplaceAll(strings.Repeat(everyByte(), 15), "#", "")
	sealed, ok := impl.AppendChecksum(s)
	if back, fine := impl.VerifyChecksum(sealed); !ok || !fine || back != s {
		t.Fatal("long string", len(sealed), ok, fine)
	}
	for i := range len(sealed) {
		expectChangesDetected(t, sealed, i, 60)
	}
}

// expectChangesDetected puts every other byte, or one of each so many, at a place of a sealed string.
func expectChangesDetected(t *testing.T, sealed string, at, step int) {
	t.Helper()
	changed := []byte(sealed)
	for d := 1; d < 256; d += step {
		changed[at] = sealed[at] + byte(d)
		if x, ok := impl.VerifyChecksum(string(changed)); ok || x != "" {
			t.Fatalf("VerifyChecksum(%.40q) = %.40q, %v; made from %.40q", changed, x, ok, sealed)
		}
	}
}

func TestVerifyChecksumRejectsOtherTexts(t *testing.T) {
	texts := []string{
		"", "#", "a", "a#", "#385", "a#384", "a#0385", "a#+385", "a#-385", "a#385 ", " a#385", "a#385\n", "a#385#", "a#385#1",
		"a##385", "#a#385", "a#3850", "a#38", "a385", "#07", "#8", "#-0", "a#1000364", "##7", "a#b#385",
		"a#385" + strings.Repeat("a", impl.MaxString), strings.Repeat("#", 5000), strings.Repeat("a", 5000),
	}
	for _, s := range texts {
		if x, ok := impl.VerifyChecksum(s); ok || x != "" {
			t.Errorf("VerifyChecksum(%.40q) = %.40q, %v", s, x, ok)
		}
	}
	// Sealing twice is not possible, even if the outer sum is right.
	sum, _ := impl.Checksum("a#385")
	if x, ok := impl.VerifyChecksum("a#385#" + strconv.Itoa(sum)); ok || x != "" {
		t.Errorf("sealed twice: %q, %v", x, ok)
	}
	if x, ok := impl.VerifyChecksum("#7"); !ok || x != "" {
		t.Errorf("VerifyChecksum of the sealed empty string = %q, %v", x, ok)
	}
}

// VerifyChecksum must agree with AppendChecksum on every short string, not only on sealed ones.
func TestVerifyChecksumAcceptsJustWhatAppendChecksumWrites(t *testing.T) {
	opened := 0
	for _, s := range wordsOver("a#78523", 5) {
		x, ok := impl.VerifyChecksum(s)
		sealed, fine := impl.AppendChecksum(strings.Split(s, "#")[0])
		if ok != (fine && sealed == s) || !ok && x != "" || ok && x+"#" != sealed[:len(x)+1] {
			t.Fatalf("VerifyChecksum(%q) = %q, %v", s, x, ok)
		}
		if ok {
			opened++
		}
	}
	if opened < 2 {
		t.Fatal("opened strings", opened)
	}
}

// Promise 13: results for all arguments, the same ones again, and nothing else where a call fails.
func TestStringsFunctionsReturnForAllArguments(t *testing.T) {
	texts := []string{
		"", "-", "#", "0", "-0", "a", "\x00", "\xff\xfe", "a#385", "#7", "\u00e9", everyByte(),
		strings.Repeat("#", impl.MaxString), strings.Repeat("7", impl.MaxString+1), strings.Repeat("a,", 1<<16),
	}
	for _, s := range texts {
		n, ok := impl.ParseInt(s)
		m, again := impl.ParseInt(s)
		if n != m || ok != again || !ok && n != 0 {
			t.Errorf("ParseInt(%.20q)", s)
		}
		n, ok = impl.Checksum(s)
		m, again = impl.Checksum(s)
		if n != m || ok != again || ok != (len(s) <= impl.MaxString) || !ok && n != 0 {
			t.Errorf("Checksum(%.20q)", s)
		}
		for _, f := range []func(string) (string, bool){impl.AppendChecksum, impl.VerifyChecksum} {
			x, ok := f(s)
			y, again := f(s)
			if x != y || ok != again || !ok && x != "" {
				t.Errorf("checksummed %.20q", s)
			}
		}
		for _, sep := range texts {
			expectSplitAndJoinTotal(t, s, sep)
		}
	}
}

func expectSplitAndJoinTotal(t *testing.T, s, sep string) {
	t.Helper()
	parts, ok := impl.SplitString(s, sep)
	if ok != (len(s) <= impl.MaxString && len(sep) == 1) || !ok && len(parts) != 0 {
		t.Errorf("SplitString(%.20q, %.20q): %d parts, %v", s, sep, len(parts), ok)
	}
	x, ok := impl.JoinStrings([]string{s, s}, sep)
	y, again := impl.JoinStrings([]string{s, s}, sep)
	if x != y || ok != again || !ok && x != "" {
		t.Errorf("JoinStrings(%.20q, %.20q)", s, sep)
	}
	if impl.LessString(s, sep) && impl.LessString(sep, s) {
		t.Errorf("LessString(%.20q, %.20q) both ways", s, sep)
	}
}

// Promise 13: arguments stay as they are, also beyond their length, whether the call fails or not.
func TestJoinStringsLeavesItsArgument(t *testing.T) {
	for _, full := range [][]string{
		{"b", "", "a", "kept"}, {"b", ",", "a", "kept"}, {strings.Repeat("a", impl.MaxString), "b", "a", "kept"},
	} {
		before := slices.Clone(full)
		impl.JoinStrings(full[:3], ",")
		impl.JoinStrings(full[:3], "")
		if !slices.Equal(full, before) {
			t.Errorf("JoinStrings made %.40q of its argument", full)
		}
	}
}

// Results share no memory: changing one of them does not show in the next.
func TestSplitStringGivesNewMemory(t *testing.T) {
	first, _ := impl.SplitString("a,b", ",")
	second, _ := impl.SplitString("a,b", ",")
	first[0], first[1] = "x", "y"
	_ = append(first, "z")
	if third, _ := impl.SplitString("a,b", ","); !slices.Equal(second, []string{"a", "b"}) || !slices.Equal(third, second) {
		t.Error("shared", second, third)
	}
}
