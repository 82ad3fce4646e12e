package tests

import (
	"bytes"
	"math"
	"slices"
	"strconv"
	"strings"
	"testing"

	"loop.example/g01248/impl"
)

// textsOf returns all texts of at most n bytes of an alphabet.
func textsOf(alphabet string, n int) []string {
	texts := []string{""}
	longest := texts
	for range n {
		var longer []string
		for _, text := range longest {
			for i := range len(alphabet) {
				longer = append(longer, text+alphabet[i:i+1])
			}
		}
		texts = append(texts, longer...)
		longest = longer
	}
	return texts
}

func TestFormatIntAndParseIntRoundTrip(t *testing.T) {
	for n := -impl.MaxDecimal; n <= impl.MaxDecimal; n++ {
		s, ok := impl.FormatInt(n)
		if !ok || s != strconv.Itoa(n) {
			t.Fatalf("FormatInt(%d) = %q, %v", n, s, ok)
		}
		if m, ok := impl.ParseInt(s); !ok || m != n {
			t.Fatalf("ParseInt(%q) = %d, %v", s, m, ok)
		}
	}
}

func TestFormatIntFailsOutsideItsBounds(t *testing.T) {
	for _, n := range []int{1000000, -1000000, math.MaxInt32, math.MinInt32, math.MaxInt, math.MinInt} {
		if s, ok := impl.FormatInt(n); ok || s != "" {
			t.Errorf("FormatInt(%d) = %q, %v", n, s, ok)
		}
	}
}

func TestParseIntRefusesOtherTexts(t *testing.T) {
	for _, s := range []string{
		"", "-", "+", "--1", "+1", "+0", "-0", "00", "01", "-01", "000001", "0000000",
		"1000000", "-1000000", "9999999999999999999999", "-9223372036854775808",
		" 1", "1 ", "1\n", "\x001", "1x", "x", "1.0", "1e3", "0x1", "1_000", "1,000", "−1", "١", "\xff",
		strings.Repeat("0", 10000) + "1", strings.Repeat("1", 10000),
	} {
		if n, ok := impl.ParseInt(s); ok || n != 0 {
			t.Errorf("ParseInt(%.20q) = %d, %v", s, n, ok)
		}
	}
}

func TestParseIntAcceptsJustWhatFormatIntWrites(t *testing.T) {
	written := map[string]int{}
	for n := -9999; n <= 9999; n++ {
		s, _ := impl.FormatInt(n)
		written[s] = n
	}
	for _, s := range textsOf("-+01289 ._x", 4) {
		want, is := written[s]
		if n, ok := impl.ParseInt(s); ok != is || n != want {
			t.Errorf("ParseInt(%q) = %d, %v", s, n, ok)
		}
	}
}

func TestSplitString(t *testing.T) {
	for _, c := range []struct {
		s, sep string
		want   []string
	}{
		{"a,,b", ",", []string{"a", "", "b"}},
		{"", ",", []string{""}},
		{",", ",", []string{"", ""}},
		{",a,", ",", []string{"", "a", ""}},
		{"abc", ",", []string{"abc"}},
		{"a b  c", " ", []string{"a", "b", "", "c"}},
		{"a\x00b", "\x00", []string{"a", "b"}},
		{"a\xffb\xfec", "\xff", []string{"a", "b\xfec"}},
		{"é", "\xc3", []string{"", "\xa9"}},
		{strings.Repeat("x", 4000), "y", []string{strings.Repeat("x", 4000)}},
		{strings.Repeat("x", 3999) + ",", ",", []string{strings.Repeat("x", 3999), ""}},
	} {
		if got, ok := impl.SplitString(c.s, c.sep); !ok || !slices.Equal(got, c.want) {
			t.Errorf("SplitString(%.20q, %q) = %.20q, %v", c.s, c.sep, got, ok)
		}
	}
	if got, ok := impl.SplitString(strings.Repeat(",", 4000), ","); !ok || len(got) != 4001 {
		t.Error("4000 separators", len(got), ok)
	}
}

func TestSplitStringFails(t *testing.T) {
	for _, c := range []struct{ s, sep string }{
		{"a", ""}, {"", ""}, {"a", ",,"}, {"a,,b", ",,"}, {"aéb", "é"},
		{strings.Repeat("x", 4001), ","}, {strings.Repeat(",", 4001), ","}, {strings.Repeat("x", 100000), ","},
	} {
		if got, ok := impl.SplitString(c.s, c.sep); ok || len(got) != 0 {
			t.Errorf("SplitString(%.20q, %q) = %.20q, %v", c.s, c.sep, got, ok)
		}
	}
}

func TestJoinStrings(t *testing.T) {
	for _, c := range []struct {
		parts []string
		sep   string
		want  string
	}{
		{[]string{"a", "", "b"}, ";", "a;;b"},
		{[]string{""}, ";", ""},
		{[]string{"", ""}, ";", ";"},
		{[]string{"a,b"}, ";", "a,b"},
		{[]string{"a", "b"}, "\x00", "a\x00b"},
		{[]string{"\xfe", "é"}, "\xff", "\xfe\xff\xc3\xa9"},
		{[]string{strings.Repeat("x", 4000)}, ";", strings.Repeat("x", 4000)},
		{[]string{strings.Repeat("x", 3998), "y"}, ";", strings.Repeat("x", 3998) + ";y"},
		{make([]string, 4001), ";", strings.Repeat(";", 4000)},
	} {
		if got, ok := impl.JoinStrings(c.parts, c.sep); !ok || got != c.want {
			t.Errorf("JoinStrings(%.20q, %q) = %.20q, %v", c.parts, c.sep, got, ok)
		}
	}
}

func TestJoinStringsFails(t *testing.T) {
	for _, c := range []struct {
		parts []string
		sep   string
	}{
		{nil, ";"}, {[]string{}, ";"}, {nil, ""},
		{[]string{"a", "b"}, ""}, {[]string{"a", "b"}, ";;"}, {[]string{"a", "b"}, "é"}, {[]string{"a"}, ""},
		{[]string{";"}, ";"}, {[]string{"a;b"}, ";"}, {[]string{"a", "b;"}, ";"}, {[]string{";a", "b"}, ";"},
		{[]string{"a", "b", "c\xff", "d"}, "\xff"}, {[]string{"é"}, "\xa9"},
		{[]string{strings.Repeat("x", 4001)}, ";"},
		{[]string{strings.Repeat("x", 3999), "y"}, ";"},
		{[]string{strings.Repeat("x", 4000), ""}, ";"},
		{[]string{"", strings.Repeat("x", 4000)}, ";"},
		{make([]string, 4002), ";"},
		{make([]string, 100000), ";"},
	} {
		if got, ok := impl.JoinStrings(c.parts, c.sep); ok || got != "" {
			t.Errorf("JoinStrings(%.20q.., %q) = %.20q, %v", c.parts[:min(3, len(c.parts))], c.sep, got, ok)
		}
	}
}

func TestSplitAndJoinRoundTrip(t *testing.T) {
	for _, s := range textsOf("a,b;", 6) {
		parts, ok := impl.SplitString(s, ",")
		if !ok || len(parts) != strings.Count(s, ",")+1 {
			t.Fatalf("SplitString(%q) = %q, %v", s, parts, ok)
		}
		if got, ok := impl.JoinStrings(parts, ","); !ok || got != s {
			t.Fatalf("JoinStrings(%q) = %q, %v", parts, got, ok)
		}
	}
	elements := textsOf("ab;", 2)
	for _, a := range elements {
		for _, b := range elements {
			for _, parts := range [][]string{{a}, {a, b}, {b, a, b}} {
				s, ok := impl.JoinStrings(parts, ",")
				if !ok {
					t.Fatalf("JoinStrings(%q) fails", parts)
				}
				if got, ok := impl.SplitString(s, ","); !ok || !slices.Equal(got, parts) {
					t.Fatalf("SplitString(%q) = %q, %v", s, got, ok)
				}
			}
		}
	}
	for c := range 256 {
		sep := string([]byte{byte(c)})
		other := string([]byte{byte(c + 1)})
		if s, ok := impl.JoinStrings([]string{other, ""}, sep); !ok || s != other+sep {
			t.Errorf("JoinStrings with %q = %q, %v", sep, s, ok)
		}
		if parts, ok := impl.SplitString(other+sep, sep); !ok || !slices.Equal(parts, []string{other, ""}) {
			t.Errorf("SplitString with %q = %q, %v", sep, parts, ok)
		}
	}
}

func TestSplitAndJoinKeepNothingOfAnArgumentOrResult(t *testing.T) {
	parts := []string{"a", "", "b"}
	impl.JoinStrings(parts, ";")
	impl.JoinStrings(parts, "a")
	if !slices.Equal(parts, []string{"a", "", "b"}) {
		t.Error("JoinStrings has changed its argument", parts)
	}
	first, _ := impl.SplitString("a,b", ",")
	first[0] = "changed"
	if second, ok := impl.SplitString("a,b", ","); !ok || !slices.Equal(second, []string{"a", "b"}) {
		t.Error("SplitString's results share memory", second)
	}
}

func TestLessString(t *testing.T) {
	texts := append(textsOf("\x00aB\x7f\x80\xff", 3), "é", "z", strings.Repeat("a", 5000), strings.Repeat("a", 5001))
	for _, a := range texts {
		for _, b := range texts {
			if got, want := impl.LessString(a, b), bytes.Compare([]byte(a), []byte(b)) < 0; got != want {
				t.Fatalf("LessString(%.20q, %.20q) = %v", a, b, got)
			}
		}
	}
	if !impl.LessString("a", "ab") || impl.LessString("ab", "a") || impl.LessString("ab", "ab") {
		t.Error("a prefix")
	}
	if !impl.LessString("", "\x00") || impl.LessString("", "") || !impl.LessString("Z", "a") || !impl.LessString("10", "9") {
		t.Error("byte by byte")
	}
}

// checksumByHand follows the document, so that a checksum is not only compared with itself.
func checksumByHand(s string) int {
	h := 7
	for i := range len(s) {
		h = (41*h + int(s[i]) + 1) % 999979
	}
	return h
}

func TestChecksum(t *testing.T) {
	for s, want := range map[string]int{"": 7, "a": 385, "ab": 15884, "abc": 651344, "abcd": 705751, "\x00": 288, "\xff": 543, "#": 323} {
		if h, ok := impl.Checksum(s); !ok || h != want {
			t.Errorf("Checksum(%q) = %d, %v", s, h, ok)
		}
	}
	long := make([]byte, 4000)
	for i := range long {
		long[i] = byte(i * i)
	}
	if got, ok := impl.Checksum(string(long)); !ok || got != checksumByHand(string(long)) {
		t.Errorf("Checksum of 4000 bytes = %d, %v", got, ok)
	}
	for _, n := range []int{4001, 100000} {
		if got, ok := impl.Checksum(strings.Repeat("a", n)); ok || got != 0 {
			t.Errorf("Checksum of %d bytes = %d, %v", n, got, ok)
		}
	}
}

// sealable returns texts for which AppendChecksum does not fail.
func sealable() []string {
	every := []byte{}
	for c := range 256 {
		if c != '#' {
			every = append(every, byte(c))
		}
	}
	texts := []string{"", "a", "ab", "\"", "$", "\x00", "\xff\xfe", "0 key 1@a", "é\n", string(every), strings.Repeat("z", 3993)}
	return append(texts, textsOf("a\x00\"", 3)...)
}

func TestChecksumsAreAppendedAndVerified(t *testing.T) {
	for _, s := range sealable() {
		sealed, ok := impl.AppendChecksum(s)
		if !ok || sealed != s+"#"+strconv.Itoa(checksumByHand(s)) {
			t.Fatalf("AppendChecksum(%.20q) = %.20q, %v", s, sealed, ok)
		}
		if got, ok := impl.VerifyChecksum(sealed); !ok || got != s {
			t.Fatalf("VerifyChecksum(%.20q) = %.20q, %v", sealed, got, ok)
		}
	}
	if s, ok := impl.AppendChecksum("a"); !ok || s != "a#385" {
		t.Error("AppendChecksum of a", s, ok)
	}
	if s, ok := impl.AppendChecksum(""); !ok || s != "#7" {
		t.Error("AppendChecksum of the empty text", s, ok)
	}
	if s, ok := impl.VerifyChecksum("#7"); !ok || s != "" {
		t.Error("VerifyChecksum of the empty text", s, ok)
	}
}

func TestAppendChecksumAtItsGreatestLength(t *testing.T) {
	seen := map[int]bool{}
	for n := 3985; n <= 4002; n++ {
		for c := byte('a'); c <= 'z'; c++ {
			s := strings.Repeat(string(c), n)
			want := s + "#" + strconv.Itoa(checksumByHand(s))
			seen[len(want)] = true
			fits := len(want) <= 4000
			got, ok := impl.AppendChecksum(s)
			if ok != fits || fits && got != want || !fits && got != "" {
				t.Fatalf("AppendChecksum of %d %c: %d bytes, %v", n, c, len(got), ok)
			}
			if back, ok := impl.VerifyChecksum(want); ok != fits || fits && back != s || !fits && back != "" {
				t.Fatalf("VerifyChecksum of %d bytes: %d bytes, %v", len(want), len(back), ok)
			}
		}
	}
	if !seen[4000] || !seen[4001] {
		t.Error("no result of exactly 4000 bytes, or none of 4001")
	}
}

func TestAppendChecksumFails(t *testing.T) {
	for _, s := range []string{"#", "a#", "#a", "a#b", "a#385", strings.Repeat("x", 100) + "#", strings.Repeat("x", 4000), strings.Repeat("x", 4001)} {
		if got, ok := impl.AppendChecksum(s); ok || got != "" {
			t.Errorf("AppendChecksum(%.20q) = %.20q, %v", s, got, ok)
		}
	}
}

func TestVerifyChecksumDetectsAChangedByte(t *testing.T) {
	for _, s := range []string{"", "a", "ab", "key 1", "\"$", "0 word 1@a b", strings.Repeat("m\x00\xff", 30)} {
		sealed, ok := impl.AppendChecksum(s)
		if !ok {
			t.Fatalf("AppendChecksum(%.20q) fails", s)
		}
		for i := range len(sealed) {
			for c := range 256 {
				changed := []byte(sealed)
				changed[i] = byte(c)
				if byte(c) == sealed[i] {
					continue
				}
				if got, ok := impl.VerifyChecksum(string(changed)); ok || got != "" {
					t.Fatalf("VerifyChecksum(%.20q) = %.20q, %v: byte %d of %.20q has changed", changed, got, ok, i, sealed)
				}
			}
		}
	}
}

func TestVerifyChecksumRefusesOtherTexts(t *testing.T) {
	for _, s := range []string{
		"", "#", "a", "a#", "7", "385", "a385", "a#384", "b#385", "A#385", "aa#385",
		"a#0385", "a#+385", "a#-385", "a#385 ", " a#385", "a#385\n", "a#385#", "a#385#1", "#a#385", "a##385", "##7",
		"#07", "#-7", "#+7", "#1000000", "a#1000364", "a#0x181", "a;385",
		"a#b#" + strconv.Itoa(checksumByHand("a#b")), strings.Repeat("x", 4001), strings.Repeat("#", 4001), strings.Repeat("#", 4000),
	} {
		if got, ok := impl.VerifyChecksum(s); ok || got != "" {
			t.Errorf("VerifyChecksum(%.20q) = %.20q, %v", s, got, ok)
		}
	}
}

func TestVerifyChecksumAcceptsJustWhatAppendChecksumWrites(t *testing.T) {
	written := map[string]string{}
	for _, s := range textsOf("a7", 2) {
		sealed, _ := impl.AppendChecksum(s)
		written[sealed] = s
	}
	for _, body := range textsOf("a7#", 3) {
		for h := range 1000 {
			s := body + strconv.Itoa(h)
			want, is := written[s]
			got, ok := impl.VerifyChecksum(s)
			if is && (!ok || got != want) {
				t.Fatalf("VerifyChecksum(%q) = %q, %v", s, got, ok)
			}
			if back, fine := impl.AppendChecksum(got); ok && (!fine || back != s) {
				t.Fatalf("VerifyChecksum(%q) = %q, %v", s, got, ok)
			}
		}
	}
}

// The arguments of this chapter's functions at which a slip would panic or run on.
func TestStringFunctionsReturnForAllArguments(t *testing.T) {
	texts := []string{"", "#", ",", "-", "\x00", "\xff", "é", "a#385", "-0", strings.Repeat(",", 4000), strings.Repeat("#", 1<<20)}
	for _, a := range texts {
		for _, b := range texts {
			impl.SplitString(a, b)
			impl.JoinStrings([]string{a, b}, b)
			impl.JoinStrings([]string{a, b}, ";")
			impl.LessString(a, b)
		}
		impl.ParseInt(a)
		impl.Checksum(a)
		impl.AppendChecksum(a)
		impl.VerifyChecksum(a)
	}
}
