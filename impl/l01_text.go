package impl

import (
	"strconv"
	"strings"
)

// maxPad is the greatest number of bytes to which PadZeros extends a string.
const maxPad = 2000

// maxName is the greatest number of bytes of a name.
const maxName = 8

// FormatInt returns the decimal representation of n.
func FormatInt(n int) string {
	return strconv.Itoa(n)
}

// ParseInt returns the int whose FormatInt is s.
func ParseInt(s string) (int, bool) {
	n, err := strconv.Atoi(s)
	// Atoi also accepts +5, 007 and -0, which FormatInt never writes.
	if err != nil || FormatInt(n) != s {
		return 0, false
	}
	return n, true
}

// IsDigits reports whether s is a nonempty string of decimal digits.
func IsDigits(s string) bool {
	for _, r := range s {
		if !isDigit(r) {
			return false
		}
	}
	return s != ""
}

// IsName reports whether s is a name: a small letter, then small letters and
// digits, at most maxName bytes in all.
func IsName(s string) bool {
	if s == "" || len(s) > maxName {
		return false
	}
	for i, r := range s {
		if !isSmallLetter(r) && (i == 0 || !isDigit(r)) {
			return false
		}
	}
	return true
}

func isDigit(r rune) bool {
	return '0' <= r && r <= '9'
}

func isSmallLetter(r rune) bool {
	return 'a' <= r && r <= 'z'
}

// SplitAny splits s at every byte that occurs in by.
func SplitAny(s string, by string) []string {
	// Bytes, not runes: a byte of by may be a part of a longer rune of s.
	var cuts [256]bool
	for i := range len(by) {
		cuts[by[i]] = true
	}
	var parts []string
	start := 0
	for i := range len(s) {
		if cuts[s[i]] {
			parts = append(parts, s[start:i])
			start = i + 1
		}
	}
	return append(parts, s[start:])
}

// SplitLines returns the lines of s without their newlines.
func SplitLines(s string) []string {
	lines := SplitAny(s, "\n")
	last := len(lines) - 1
	if lines[last] == "" {
		return lines[:last]
	}
	return lines
}

// Join returns the elements of l separated by by.
func Join(l []string, by string) string {
	return joinWith(by, l...)
}

// joinWith is Join for parts that are written out one by one.
func joinWith(by string, parts ...string) string {
	return strings.Join(parts, by)
}

// PadZeros returns s with leading zeros up to a length of n bytes.
func PadZeros(s string, n int) string {
	if len(s) >= n || n > maxPad {
		return s
	}
	return strings.Repeat("0", n-len(s)) + s
}
