package impl

import (
	"iter"
	"strconv"
	"strings"
)

const MaxString = 4000
const MaxDecimal = 999999

// The modulus is a prime greater than any byte, and no power of the factor is a multiple of it:
// so one changed byte always changes the checksum.
const (
	checksumStart   = 7
	checksumFactor  = 41
	checksumModulus = 999979
	checksumMark    = "#"
)

// FormatInt returns the decimal representation of n and true. If n is outside
// -MaxDecimal..MaxDecimal it returns the empty string and false. The representation has no
// leading zeros; a negative number starts with `-`.
func FormatInt(n int) (string, bool) {
	if n < -MaxDecimal || n > MaxDecimal {
		return "", false
	}
	return strconv.Itoa(n), true
}

// ParseInt is the inverse of FormatInt: it returns the integer n for which FormatInt(n) is s,
// and true. For any other string, including strings with leading zeros, a leading `+`, or `-0`,
// it returns 0 and false.
func ParseInt(s string) (int, bool) {
	n, err := strconv.Atoi(s)
	if err != nil {
		return 0, false
	}
	// Atoi also reads texts that FormatInt never writes.
	if text, ok := FormatInt(n); !ok || text != s {
		return 0, false
	}
	return n, true
}

// SplitString splits s, which must have at most MaxString bytes, at every occurrence of the
// single-byte separator sep, and returns the substrings between the separators in order, and
// true. The result has one element more than s has separators, so the empty string yields one
// empty element. If s is too long or sep does not consist of exactly one byte, it returns an
// empty slice and false.
func SplitString(s string, sep string) ([]string, bool) {
	if len(s) > MaxString || len(sep) != 1 {
		return []string{}, false
	}
	parts := []string{}
	for part := range partsOf(s, sep[0]) {
		parts = append(parts, part)
	}
	return parts, true
}

// partsOf yields what stands between the separators of s, byte by byte, because a separator
// need not be a whole character.
func partsOf(s string, sep byte) iter.Seq[string] {
	return func(yield func(string) bool) {
		from := 0
		for i := range len(s) {
			if s[i] != sep {
				continue
			}
			if !yield(s[from:i]) {
				return
			}
			from = i + 1
		}
		yield(s[from:])
	}
}

// JoinStrings is the inverse of SplitString: it returns the elements of parts concatenated with
// sep between consecutive elements, and true. It returns the empty string and false if parts is
// empty, if sep does not consist of exactly one byte, if an element contains sep, or if the
// result would have more than MaxString bytes.
func JoinStrings(parts []string, sep string) (string, bool) {
	if len(parts) == 0 || len(sep) != 1 {
		return "", false
	}
	if !fitJoined(parts) || anyHas(parts, sep[0]) {
		return "", false
	}
	return strings.Join(parts, sep), true
}

// fitJoined counts one byte behind each part, and so begins with room for one byte more: the
// last part has no separator behind it.
func fitJoined(parts []string) bool {
	room := MaxString + 1
	for _, part := range parts {
		if len(part) >= room {
			return false
		}
		room -= len(part) + 1
	}
	return true
}

func anyHas(parts []string, sep byte) bool {
	found := false
search:
	for _, part := range parts {
		for i := range len(part) {
			if part[i] == sep {
				found = true
				break search
			}
		}
	}
	return found
}

// LessString reports whether a is lexicographically less than b, comparing byte by byte; a
// proper prefix is less than the longer string.
func LessString(a string, b string) bool { return a < b }

// Checksum returns the checksum of s and true. The checksum starts at 7 and is updated for
// every byte c of s, in order, to (41*h + c + 1) modulo 999979. If s has more than MaxString
// bytes, it returns 0 and false.
func Checksum(s string) (int, bool) {
	if len(s) > MaxString {
		return 0, false
	}
	h := checksumStart
	for i := range len(s) {
		h = (checksumFactor*h + int(s[i]) + 1) % checksumModulus
	}
	return h, true
}

// AppendChecksum returns s followed by `#` and the decimal checksum of s, and true. It returns
// the empty string and false if s contains `#` or if s or the result has more than MaxString
// bytes.
func AppendChecksum(s string) (string, bool) {
	sum, ok := Checksum(s)
	if !ok {
		return "", false
	}
	text, ok := FormatInt(sum)
	if !ok {
		return "", false
	}
	return JoinStrings([]string{s, text}, checksumMark)
}

// VerifyChecksum is the inverse of AppendChecksum: it returns the string t for which
// AppendChecksum(t) is s, and true. If there is no such string, it returns the empty string and
// false.
func VerifyChecksum(s string) (string, bool) {
	parts, ok := SplitString(s, checksumMark)
	if !ok || len(parts) != 2 {
		return "", false
	}
	// Comparing whole texts also refuses a checksum in another decimal form.
	if again, ok := AppendChecksum(parts[0]); !ok || again != s {
		return "", false
	}
	return parts[0], true
}
