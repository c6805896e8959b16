package impl

import (
	"strconv"
	"strings"
)

const (
	maxNameBytes   = 8
	maxPaddedBytes = 2000
)

func FormatInt(n int) string { return strconv.Itoa(n) }

func ParseInt(s string) (int, bool) {
	n, err := strconv.Atoi(s)
	// Atoi also accepts a plus sign, leading zeros and -0, which FormatInt never writes.
	if err != nil || FormatInt(n) != s {
		return 0, false
	}
	return n, true
}

func IsDigits(s string) bool {
	for _, r := range s {
		if !isDigit(r) {
			return false
		}
	}
	return s != ""
}

func IsName(s string) bool {
	if s == "" || len(s) > maxNameBytes {
		return false
	}
	for i, r := range s {
		if !isSmallLetter(r) && (i == 0 || !isDigit(r)) {
			return false
		}
	}
	return true
}

func SplitAny(s string, by string) []string {
	cuts := bytesIn(by)
	parts := []string{}
	start := 0
	// Bytes and not runes: a separator may be a part of a longer rune, or no rune at all.
	for i := range len(s) {
		if cuts[s[i]] {
			parts = append(parts, strings.Clone(s[start:i]))
			start = i + 1
		}
	}
	return append(parts, strings.Clone(s[start:]))
}

func SplitLines(s string) []string {
	lines := SplitAny(s, "\n")
	last := len(lines) - 1
	if lines[last] == "" {
		return lines[:last]
	}
	return lines
}

func Join(l []string, by string) string { return joinParts(by, l...) }

func PadZeros(s string, n int) string {
	zeros := ""
	// The lengths are compared before they are subtracted, as the difference from the least int would wrap around.
	if n > len(s) && n <= maxPaddedBytes {
		zeros = strings.Repeat("0", n-len(s))
	}
	return joinParts("", zeros, s)
}

func isDigit(r rune) bool { return r >= '0' && r <= '9' }

func isSmallLetter(r rune) bool { return r >= 'a' && r <= 'z' }

func bytesIn(s string) [256]bool {
	var found [256]bool
	for i := range len(s) {
		found[s[i]] = true
	}
	return found
}

// joinParts writes into new memory even where strings.Join would return its only part as it is.
func joinParts(by string, parts ...string) string {
	var text strings.Builder
	for i, part := range parts {
		if i > 0 {
			text.WriteString(by)
		}
		text.WriteString(part)
	}
	return text.String()
}
