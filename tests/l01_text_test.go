package tests

import (
	"math"
	"slices"
	"strings"
	"testing"
	"unsafe"

	"loop.example/g03205/impl"
)

// shareMemory reports whether a byte of a lies in the memory of b.
func shareMemory(a, b string) bool {
	if a == "" || b == "" {
		return false
	}
	startA := uintptr(unsafe.Pointer(unsafe.StringData(a)))
	startB := uintptr(unsafe.Pointer(unsafe.StringData(b)))
	return startA < startB+uintptr(len(b)) && startB < startA+uintptr(len(a))
}

// everyByte returns all strings of one byte.
func everyByte() []string {
	all := []string{}
	for b := range 256 {
		all = append(all, string([]byte{byte(b)}))
	}
	return all
}

// textsOver returns all strings of at most length bytes of letters.
func textsOver(letters string, length int) []string {
	all := []string{""}
	for from := 0; length > 0; length-- {
		end := len(all)
		for ; from < end; from++ {
			for i := range len(letters) {
				all = append(all, all[from]+letters[i:i+1])
			}
		}
	}
	return all
}

var writtenInts = []struct {
	n    int
	text string
}{
	{0, "0"},
	{1, "1"},
	{7, "7"},
	{9, "9"},
	{10, "10"},
	{100, "100"},
	{101, "101"},
	{2026, "2026"},
	{1234567890, "1234567890"},
	{-1, "-1"},
	{-9, "-9"},
	{-10, "-10"},
	{-2050, "-2050"},
	{math.MaxInt32, "2147483647"},
	{math.MaxInt32 + 1, "2147483648"},
	{math.MinInt32, "-2147483648"},
	{math.MinInt32 - 1, "-2147483649"},
	{1000000000000000000, "1000000000000000000"},
	{-1000000000000000000, "-1000000000000000000"},
	{math.MaxInt - 1, "9223372036854775806"},
	{math.MaxInt, "9223372036854775807"},
	{math.MinInt + 1, "-9223372036854775807"},
	{math.MinInt, "-9223372036854775808"},
}

func TestFormatInt(t *testing.T) {
	for _, c := range writtenInts {
		if got := impl.FormatInt(c.n); got != c.text {
			t.Errorf("FormatInt(%d) = %q, want %q", c.n, got, c.text)
		}
	}
}

func TestParseInt(t *testing.T) {
	for _, c := range writtenInts {
		if got, ok := impl.ParseInt(c.text); got != c.n || !ok {
			t.Errorf("ParseInt(%q) = %d, %v, want %d, true", c.text, got, ok, c.n)
		}
	}
	for n := -1100; n <= 1100; n++ {
		if got, ok := impl.ParseInt(impl.FormatInt(n)); got != n || !ok {
			t.Errorf("ParseInt(FormatInt(%d)) = %d, %v", n, got, ok)
		}
	}
}

func TestParseIntRefusesOtherTexts(t *testing.T) {
	texts := []string{
		"", "-", "+", "--", "-+5", "--5", "+-5", "5-", "5+", "1-2",
		"+5", "+0", "-0", "-00", "00", "000", "07", "-07", "+07", "0007",
		" ", " 5", "5 ", "5 5", "- 5", "\t5", "5\n", "5\r\n", "5\x00", "\x005",
		"1_000", "1,000", "1.0", "1.", ".5", "1e3", "0x10", "0b1", "0o7", "x", "a", "five", "5a", "a5",
		"9223372036854775808", "-9223372036854775809", "9223372036854775817", "-9223372036854775818",
		"18446744073709551615", "18446744073709551616", "18446744073709551623", "-18446744073709551616",
		"99999999999999999999", "-99999999999999999999", strings.Repeat("9", 5000), strings.Repeat("0", 30) + "1",
		"\xff", "5\xff", "\xff5", "5\x80", "-\xc3", "\u0665", "\uff15", "\u22125", "5\u00a0", "\u00b2",
	}
	for _, s := range texts {
		if n, ok := impl.ParseInt(s); n != 0 || ok {
			t.Errorf("ParseInt(%q) = %d, %v, want 0, false", s, n, ok)
		}
	}
}

func TestParseIntOfEveryShortText(t *testing.T) {
	written := map[string]int{}
	for n := -999; n <= 9999; n++ {
		written[impl.FormatInt(n)] = n
	}
	for _, s := range textsOver("0195-+ \xff", 4) {
		want, isWritten := written[s]
		if n, ok := impl.ParseInt(s); n != want || ok != isWritten {
			t.Errorf("ParseInt(%q) = %d, %v, want %d, %v", s, n, ok, want, isWritten)
		}
	}
}

func TestIsDigits(t *testing.T) {
	for _, s := range []string{"0", "9", "5", "00", "09", "007", "0123456789", "99999999999999999999", strings.Repeat("0", 5000)} {
		if !impl.IsDigits(s) {
			t.Errorf("IsDigits(%q) = false, want true", s)
		}
	}
	texts := []string{
		"", " ", "-", "-1", "+1", " 1", "1 ", "1 2", "1.5", "1a", "a1", "a", "0x1", "1\n", "\n", "1\x00", "\x00",
		"\xff", "1\xff", "\xff1", "1\x80" + "2", "\xb0", "\xc0\xb0", "1\xc3", "\u0665", "1\uff12", "\u00b2", "\ufffd",
	}
	for _, s := range texts {
		if impl.IsDigits(s) {
			t.Errorf("IsDigits(%q) = true, want false", s)
		}
	}
}

func TestIsDigitsForEveryByte(t *testing.T) {
	for _, b := range everyByte() {
		want := b[0] >= 48 && b[0] <= 57
		for _, s := range []string{b, b + "0", "0" + b, "0" + b + "9"} {
			if impl.IsDigits(s) != want {
				t.Errorf("IsDigits(%q) = %v, want %v", s, !want, want)
			}
		}
	}
}

func TestIsName(t *testing.T) {
	for _, s := range []string{"a", "m", "z", "x1", "a0", "z9", "aa", "az", "a0b1", "abcdefg", "abcdefgh", "a1234567", "zzzzzzzz"} {
		if !impl.IsName(s) {
			t.Errorf("IsName(%q) = false, want true", s)
		}
	}
	texts := []string{
		"", "abcdefghi", "a12345678", strings.Repeat("a", 5000), "0", "9", "1x", "12345678", "A", "Z", "aB", "Ab",
		" ", " a", "a ", "a b", "a-b", "a_b", "_a", "a.b", "a\n", "\na", "a\x00", "\x00",
		"\xff", "\xffa", "a\xff", "a\x80b", "\xe1", "a\xc3", "\u00e9", "a\u00e9", "a\u0665", "\uff41", "a\uff41", "\ufffd",
		"abcdefg\u00e9", "abcdefg\xff",
	}
	for _, s := range texts {
		if impl.IsName(s) {
			t.Errorf("IsName(%q) = true, want false", s)
		}
	}
}

func TestIsNameForEveryByte(t *testing.T) {
	for _, b := range everyByte() {
		letter := b[0] >= 97 && b[0] <= 122
		digit := b[0] >= 48 && b[0] <= 57
		for _, s := range []string{b, b + "a", b + "0", b + "bcdefgh"} {
			if impl.IsName(s) != letter {
				t.Errorf("IsName(%q) = %v, want %v", s, !letter, letter)
			}
		}
		for _, s := range []string{"a" + b, "a" + b + "z", "abcdefg" + b} {
			if impl.IsName(s) != (letter || digit) {
				t.Errorf("IsName(%q) = %v, want %v", s, !(letter || digit), letter || digit)
			}
		}
	}
}

var splits = []struct {
	s, by string
	parts []string
}{
	{"a,b c", ", ", []string{"a", "b", "c"}},
	{"a,b c", ",", []string{"a", "b c"}},
	{"a,b c", " ", []string{"a,b", "c"}},
	{"one:two:three", ":", []string{"one", "two", "three"}},
	{"abc", "b", []string{"a", "c"}},
	{"abc", "bb", []string{"a", "c"}},
	{"abc", "ac", []string{"", "b", ""}},
	{"abc", "ca", []string{"", "b", ""}},
	// No separator at all.
	{"abc", ",", []string{"abc"}},
	{"abc", "ABC", []string{"abc"}},
	{"abc", "", []string{"abc"}},
	{"", "", []string{""}},
	{"", ",", []string{""}},
	{"", ", ;", []string{""}},
	// Separators at both ends and several ones in a row.
	{",", ",", []string{"", ""}},
	{",a", ",", []string{"", "a"}},
	{"a,", ",", []string{"a", ""}},
	{",a,", ",", []string{"", "a", ""}},
	{"a,,b", ",", []string{"a", "", "b"}},
	{"a, b", ", ", []string{"a", "", "b"}},
	{",,,", ",", []string{"", "", "", ""}},
	{", ,", ", ", []string{"", "", "", ""}},
	{"  a  b  ", " ", []string{"", "", "a", "", "b", "", ""}},
	{"abc", "abc", []string{"", "", "", ""}},
	// Bytes that no rune has, and runes of several bytes.
	{"a\x00b", "\x00", []string{"a", "b"}},
	{"a\xffb", "\xff", []string{"a", "b"}},
	{"a\xfeb", "\xff", []string{"a\xfeb"}},
	{"a\xffb", "\xfe", []string{"a\xffb"}},
	{"a\xffb", "\ufffd", []string{"a\xffb"}},
	{"a\ufffdb", "\xff", []string{"a\ufffdb"}},
	{"\xff,\xfe", ",", []string{"\xff", "\xfe"}},
	{"\u00e9", "\xa9", []string{"\xc3", ""}},
	{"\u00e9", "\xc3", []string{"", "\xa9"}},
	{"a\u00e9b", "\u00e9", []string{"a", "", "b"}},
	{"a\xa9b", "\u00e9", []string{"a", "b"}},
	{"\u00e8\u00e9", "\u00e9", []string{"", "\xa8", "", ""}},
	{"\u00e9,\u4e16", ",", []string{"\u00e9", "\u4e16"}},
}

func TestSplitAny(t *testing.T) {
	for _, c := range splits {
		if got := impl.SplitAny(c.s, c.by); !slices.Equal(got, c.parts) {
			t.Errorf("SplitAny(%q, %q) = %q, want %q", c.s, c.by, got, c.parts)
		}
	}
}

func TestSplitAnyAtEveryByte(t *testing.T) {
	all := strings.Join(everyByte(), "")
	for i, b := range everyByte() {
		want := []string{all[:i], all[i+1:]}
		if got := impl.SplitAny(all, b); !slices.Equal(got, want) {
			t.Errorf("SplitAny(all bytes, %q) has %d parts: %q", b, len(got), got)
		}
		if got := impl.SplitAny(b, all); !slices.Equal(got, []string{"", ""}) {
			t.Errorf("SplitAny(%q, all bytes) = %q", b, got)
		}
	}
}

// isSplit reports whether parts are s without the bytes of by, each of which ends a part.
func isSplit(s, by string, parts []string) bool {
	isCut := func(b byte) bool { return strings.IndexByte(by, b) >= 0 }
	at := 0
	for _, part := range parts {
		if at > len(s) || !strings.HasPrefix(s[at:], part) || slices.ContainsFunc([]byte(part), isCut) {
			return false
		}
		at += len(part)
		if at < len(s) && !isCut(s[at]) {
			return false
		}
		at++
	}
	return at == len(s)+1
}

func TestSplitAnyKeepsWhatIsBetween(t *testing.T) {
	for _, s := range textsOver("a,;\xff", 5) {
		for _, by := range []string{"", ",", ",;", ";\xff", "x"} {
			if parts := impl.SplitAny(s, by); !isSplit(s, by, parts) {
				t.Errorf("SplitAny(%q, %q) = %q", s, by, parts)
			}
		}
	}
}

func TestSplitLines(t *testing.T) {
	cases := []struct {
		s     string
		lines []string
	}{
		{"a\nb\n", []string{"a", "b"}},
		{"a\nb", []string{"a", "b"}},
		{"a\nb\nc", []string{"a", "b", "c"}},
		{"a", []string{"a"}},
		{"a\n", []string{"a"}},
		{"", nil},
		{"\n", []string{""}},
		{"\n\n", []string{"", ""}},
		{"\n\n\n", []string{"", "", ""}},
		{"\na", []string{"", "a"}},
		{"\na\n", []string{"", "a"}},
		{"a\n\n", []string{"a", ""}},
		{"a\n\nb", []string{"a", "", "b"}},
		{"a\n ", []string{"a", " "}},
		{"a b,c\n", []string{"a b,c"}},
		{"a\r\nb\r\n", []string{"a\r", "b\r"}},
		{"a\rb", []string{"a\rb"}},
		{"a\r", []string{"a\r"}},
		{"a\x00\n\x00", []string{"a\x00", "\x00"}},
		{"a\vb\fc\u0085d\u2028e", []string{"a\vb\fc\u0085d\u2028e"}},
		{"\xff\n\xfe\n", []string{"\xff", "\xfe"}},
		{"\xc3\n\xa9", []string{"\xc3", "\xa9"}},
		{"\u00e9\n\u4e16", []string{"\u00e9", "\u4e16"}},
	}
	for _, c := range cases {
		if got := impl.SplitLines(c.s); !slices.Equal(got, c.lines) {
			t.Errorf("SplitLines(%q) = %q, want %q", c.s, got, c.lines)
		}
	}
}

func TestJoin(t *testing.T) {
	cases := []struct {
		l    []string
		by   string
		text string
	}{
		{nil, ",", ""},
		{[]string{}, ",", ""},
		{nil, "", ""},
		{[]string{""}, ",", ""},
		{[]string{"a"}, ",", "a"},
		{[]string{"a"}, "", "a"},
		{[]string{"a", "b"}, ",", "a,b"},
		{[]string{"a", "b", "c"}, "-", "a-b-c"},
		{[]string{"a", "b", "c"}, ", ", "a, b, c"},
		{[]string{"a", "b", "c"}, "", "abc"},
		{[]string{"ab", "cde"}, "\n", "ab\ncde"},
		{[]string{"", ""}, ",", ","},
		{[]string{"", "", ""}, "--", "----"},
		{[]string{"", "a"}, ",", ",a"},
		{[]string{"a", ""}, ",", "a,"},
		{[]string{"a", "", "b"}, ",", "a,,b"},
		{[]string{",", ","}, ",", ",,,"},
		{[]string{"\xff", "\xfe"}, "\x80", "\xff\x80\xfe"},
		{[]string{"\xc3", "\xa9"}, "", "\u00e9"},
		{[]string{"\u00e9", "\x00"}, "\u4e16", "\u00e9\u4e16\x00"},
	}
	for _, c := range cases {
		if got := impl.Join(c.l, c.by); got != c.text {
			t.Errorf("Join(%q, %q) = %q, want %q", c.l, c.by, got, c.text)
		}
	}
}

func TestJoinUndoesSplitAny(t *testing.T) {
	for _, s := range textsOver("a,\n\xc3", 5) {
		for _, by := range []string{",", "\n", "\xc3", "x"} {
			if got := impl.Join(impl.SplitAny(s, by), by); got != s {
				t.Errorf("Join(SplitAny(%q, %q), %q) = %q", s, by, by, got)
			}
		}
	}
}

func TestJoinLeavesTheListAsItIs(t *testing.T) {
	memory := []string{"a", "b", "c", "d"}
	if got := impl.Join(memory[:2], ","); got != "a,b" {
		t.Errorf("Join = %q, want %q", got, "a,b")
	}
	if !slices.Equal(memory, []string{"a", "b", "c", "d"}) {
		t.Errorf("Join changed its argument or the memory behind it: %q", memory)
	}
}

func TestPadZeros(t *testing.T) {
	long := strings.Repeat("x", 1999)
	cases := []struct {
		s    string
		n    int
		text string
	}{
		{"7", 3, "007"},
		{"7", 2, "07"},
		{"7", 1, "7"},
		{"42", 5, "00042"},
		{"0", 4, "0000"},
		{"-5", 4, "00-5"},
		{"abc", 4, "0abc"},
		{" ", 3, "00 "},
		{"abc", 3, "abc"},
		{"abc", 2, "abc"},
		{"abc", 0, "abc"},
		{"abc", -1, "abc"},
		{"abc", -2000, "abc"},
		{"abc", math.MinInt, "abc"},
		{"abc", math.MinInt + 2, "abc"},
		{"", 0, ""},
		{"", 1, "0"},
		{"", 3, "000"},
		{"", -1, ""},
		{"", math.MinInt, ""},
		{"7", 1999, strings.Repeat("0", 1998) + "7"},
		{"7", 2000, strings.Repeat("0", 1999) + "7"},
		{"7", 2001, "7"},
		{"7", 2002, "7"},
		{"7", math.MaxInt, "7"},
		{"", 2000, strings.Repeat("0", 2000)},
		{"", 2001, ""},
		{"", math.MaxInt, ""},
		{long, 1999, long},
		{long, 2000, "0" + long},
		{long, 2001, long},
		{long + "x", 2000, long + "x"},
		{long + "x", 2001, long + "x"},
		{long + "xx", 2000, long + "xx"},
		{long + "xx", 2001, long + "xx"},
		{long + "xx", 2002, long + "xx"},
		{"\u00e9", 2, "\u00e9"},
		{"\u00e9", 3, "0\u00e9"},
		{"\u4e16", 4, "0\u4e16"},
		{"\xff", 1, "\xff"},
		{"\xff", 2, "0\xff"},
		{"\xff\xfe\x00", 5, "00\xff\xfe\x00"},
	}
	for _, c := range cases {
		if got := impl.PadZeros(c.s, c.n); got != c.text {
			t.Errorf("PadZeros(%d bytes %.10q, %d) has %d bytes %.10q, want %d bytes %.10q", len(c.s), c.s, c.n, len(got), got, len(c.text), c.text)
		}
	}
}

func TestTextsAreNewlyAllocated(t *testing.T) {
	s := strings.Repeat("part,", 3) + "end"
	for _, by := range []string{"", ",", "x"} {
		for _, part := range impl.SplitAny(s, by) {
			if shareMemory(part, s) {
				t.Errorf("SplitAny(s, %q) returns the part %q of its argument's memory", by, part)
			}
		}
	}
	text := "one\ntwo"
	for _, line := range impl.SplitLines(text) {
		if shareMemory(line, text) {
			t.Errorf("SplitLines returns the line %q of its argument's memory", line)
		}
	}
	if l := []string{s}; shareMemory(impl.Join(l, ","), s) {
		t.Error("Join returns its argument's only element itself")
	}
	if by := "::"; shareMemory(impl.Join([]string{"", ""}, by), by) {
		t.Error("Join returns the separator itself")
	}
	for _, n := range []int{-1, len(s), 2001} {
		if shareMemory(impl.PadZeros(s, n), s) {
			t.Errorf("PadZeros(s, %d) returns its argument itself", n)
		}
	}
}

func TestListsAreNewlyAllocated(t *testing.T) {
	functions := []func() []string{
		func() []string { return impl.SplitAny("a,b,c", ",") },
		func() []string { return impl.SplitAny("abc", "") },
		func() []string { return impl.SplitLines("a\nb\n") },
		func() []string { return impl.SplitLines("a\nb") },
	}
	for i, call := range functions {
		first := call()
		want := slices.Clone(first)
		for k := range first {
			first[k] = "changed"
		}
		if second := call(); !slices.Equal(second, want) {
			t.Errorf("function %d: after a change of its first result it returns %q, want %q", i, second, want)
		}
	}
}
