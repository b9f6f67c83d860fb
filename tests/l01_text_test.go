package tests

import (
	"bytes"
	"math"
	"math/big"
	"slices"
	"strings"
	"testing"

	"loop.example/g00841/impl"
)

// stringsUpTo returns all strings of at most n bytes of the alphabet.
func stringsUpTo(alphabet string, n int) []string {
	all := []string{""}
	layer := all
	for range n {
		var next []string
		for _, s := range layer {
			for i := range len(alphabet) {
				next = append(next, s+alphabet[i:i+1])
			}
		}
		all = append(all, next...)
		layer = next
	}
	return all
}

// everyByte returns the string of the bytes from 0 to 255.
func everyByte() string {
	b := make([]byte, 256)
	for i := range b {
		b[i] = byte(i)
	}
	return string(b)
}

// sampleInts returns ints near 0, near every power of 2 and near every power of 10.
func sampleInts() []int {
	var l []int
	near := func(n int) {
		for d := -3; d <= 3; d++ {
			l = append(l, n+d, -(n + d))
		}
	}
	for i := range 64 {
		near(1 << i)
	}
	for n, i := 1, 0; i < 19; i++ {
		near(n)
		n *= 10
	}
	return append(l, 0, math.MinInt, math.MaxInt)
}

func TestFormatInt(t *testing.T) {
	cases := []struct {
		n    int
		want string
	}{
		{0, "0"}, {7, "7"}, {-7, "-7"}, {10, "10"}, {-10, "-10"}, {100200, "100200"},
		{math.MaxInt, "9223372036854775807"},
		{math.MinInt, "-9223372036854775808"},
		{math.MinInt + 1, "-9223372036854775807"},
	}
	for _, c := range cases {
		if got := impl.FormatInt(c.n); got != c.want {
			t.Errorf("FormatInt(%d) = %q, want %q", c.n, got, c.want)
		}
	}
	for _, n := range sampleInts() {
		if got, want := impl.FormatInt(n), big.NewInt(int64(n)).String(); got != want {
			t.Errorf("FormatInt(%d) = %q, want %q", n, got, want)
		}
	}
}

func TestParseIntRecoversInts(t *testing.T) {
	check := func(n int) {
		if got, ok := impl.ParseInt(impl.FormatInt(n)); got != n || !ok {
			t.Errorf("ParseInt(FormatInt(%d)) = %d, %v", n, got, ok)
		}
	}
	for n := -20000; n <= 20000; n++ {
		check(n)
	}
	for _, n := range sampleInts() {
		check(n)
	}
}

func TestParseIntRejects(t *testing.T) {
	bad := []string{
		"", "-", "+", "--1", "-+1", "+-1", "+0", "+5", "-0", "00", "-00", "07", "-07", "007", "0000000000000000000000",
		" 5", "5 ", "\t5", "5\n", "- 5", "1 2", "1_000", "1,000", "1.0", "1e3", "0x10", "0b1", "0o7", "a", "5a", "-a",
		"5\x00", "\x005", "\xff", "5\xff", "\u0663", "\uff11", "\u22125", "Inf", "nil",
		"9223372036854775808", "-9223372036854775809",
		"9223372036854775817", "-9223372036854775818", "10000000000000000000", "-10000000000000000000",
		"18446744073709551615", "18446744073709551616", "18446744073709551617", "-18446744073709551616",
		"99999999999999999999", "340282366920938463463374607431768211456",
		"09223372036854775807", "-09223372036854775808", "+9223372036854775807",
		strings.Repeat("9", 5000), "-" + strings.Repeat("9", 5000), strings.Repeat("0", 5000) + "1",
	}
	for _, s := range bad {
		if n, ok := impl.ParseInt(s); n != 0 || ok {
			t.Errorf("ParseInt(%q) = %d, %v, want 0, false", s, n, ok)
		}
	}
}

// TestParseIntIsExact compares ParseInt on all short strings with the inverse of FormatInt.
func TestParseIntIsExact(t *testing.T) {
	known := map[string]int{}
	for n := -9999; n <= 9999; n++ {
		known[impl.FormatInt(n)] = n
	}
	for _, s := range stringsUpTo("+-0129_ x\x00\xff", 4) {
		want, wantOk := known[s]
		if n, ok := impl.ParseInt(s); n != want || ok != wantOk {
			t.Errorf("ParseInt(%q) = %d, %v, want %d, %v", s, n, ok, want, wantOk)
		}
	}
}

func TestIsDigits(t *testing.T) {
	good := []string{"0", "9", "09", "007", "0123456789", "99999999999999999999", strings.Repeat("5", 3000)}
	bad := []string{"", "-1", "+1", " 1", "1 ", "1\n", "1.5", "a", "1a", "a1", "0x1", "/", ":", "1/", "1:",
		"\x00", "1\x00", "\xff", "1\xff", "\xb1", "\u0663", "\u0661\u0662", "\uff11", "1\u00b2", "\ufffd"}
	for _, s := range good {
		if !impl.IsDigits(s) {
			t.Errorf("IsDigits(%q) = false", s)
		}
	}
	for _, s := range bad {
		if impl.IsDigits(s) {
			t.Errorf("IsDigits(%q) = true", s)
		}
	}
	for b := range 256 {
		s := string([]byte{byte(b)})
		want := b >= 48 && b <= 57
		if impl.IsDigits(s) != want || impl.IsDigits("1"+s) != want || impl.IsDigits(s+"1") != want {
			t.Errorf("IsDigits is wrong for the byte %d", b)
		}
	}
}

func TestIsName(t *testing.T) {
	good := []string{"a", "z", "x1", "a0", "z9", "abcdefgh", "a1234567", "zzzzzzzz", "graph"}
	bad := []string{"", "1", "1x", "0a", "A", "aB", "abcdefghi", "a12345678", "a_b", "a-b", "a b", " a", "a ", "a\n",
		"_", "`", "{", "a/", "a:", "a`", "a{", "a@", "a[", "\x00", "a\x00", "\xff", "a\xff", "\u00e9", "a\u00e9", "a\u0663", "\uff41",
		"aaaaaaa\u00e9", strings.Repeat("a", 3000)}
	for _, s := range good {
		if !impl.IsName(s) {
			t.Errorf("IsName(%q) = false", s)
		}
	}
	for _, s := range bad {
		if impl.IsName(s) {
			t.Errorf("IsName(%q) = true", s)
		}
	}
	for b := range 256 {
		s := string([]byte{byte(b)})
		letter := b >= 'a' && b <= 'z'
		digit := b >= '0' && b <= '9'
		if impl.IsName(s) != letter || impl.IsName(s+"a") != letter {
			t.Errorf("IsName is wrong for the first byte %d", b)
		}
		if impl.IsName("a"+s) != (letter || digit) || impl.IsName("abcdefg"+s) != (letter || digit) {
			t.Errorf("IsName is wrong for the later byte %d", b)
		}
	}
	for n := range 20 {
		if impl.IsName(strings.Repeat("a", n)) != (n >= 1 && n <= 8) {
			t.Errorf("IsName is wrong for %d bytes", n)
		}
	}
}

// splitSlowly is SplitAny by its definition, byte by byte.
func splitSlowly(s string, by string) []string {
	parts := []string{""}
	for i := range len(s) {
		if bytes.IndexByte([]byte(by), s[i]) >= 0 {
			parts = append(parts, "")
		} else {
			parts[len(parts)-1] += s[i : i+1]
		}
	}
	return parts
}

func TestSplitAny(t *testing.T) {
	cases := []struct {
		s, by string
		want  []string
	}{
		{"a,b c", ", ", []string{"a", "b", "c"}},
		{"a, b", ", ", []string{"a", "", "b"}},
		{"", "", []string{""}},
		{"", ",", []string{""}},
		{"abc", "", []string{"abc"}},
		{"abc", "xyz", []string{"abc"}},
		{",", ",", []string{"", ""}},
		{",a,", ",", []string{"", "a", ""}},
		{",,,", ",", []string{"", "", "", ""}},
		{"a,b", ",,", []string{"a", "b"}},
		{"aba", "ab", []string{"", "", "", ""}},
		{"\u00e9", "\u00e8", []string{"", "\xa9"}},
		{"\u00e9x", "\xa9", []string{"\xc3", "x"}},
		{"x\xffy", "\xff", []string{"x", "y"}},
		{"x\xffy", "\xfe", []string{"x\xffy"}},
		{"x\xffy", "\ufffd", []string{"x\xffy"}},
		{"x\ufffdy", "\xff", []string{"x\ufffdy"}},
		{"x\x00y", "\x00", []string{"x", "y"}},
	}
	for _, c := range cases {
		if got := impl.SplitAny(c.s, c.by); !slices.Equal(got, c.want) {
			t.Errorf("SplitAny(%q, %q) = %q, want %q", c.s, c.by, got, c.want)
		}
	}
	if got := impl.SplitAny(everyByte(), everyByte()); len(got) != 257 || impl.Join(got, "") != "" {
		t.Errorf("SplitAny at every byte = %q", got)
	}
	alphabet := "a, \xc3\xa9\xff"
	separators := stringsUpTo(alphabet, 2)
	for _, s := range stringsUpTo(alphabet, 4) {
		for _, by := range separators {
			if got, want := impl.SplitAny(s, by), splitSlowly(s, by); !slices.Equal(got, want) {
				t.Fatalf("SplitAny(%q, %q) = %q, want %q", s, by, got, want)
			}
		}
	}
}

func TestSplitLines(t *testing.T) {
	cases := []struct {
		s    string
		want []string
	}{
		{"", nil},
		{"\n", []string{""}},
		{"\n\n", []string{"", ""}},
		{"a", []string{"a"}},
		{"a\n", []string{"a"}},
		{"a\nb", []string{"a", "b"}},
		{"a\nb\n", []string{"a", "b"}},
		{"a\n\n", []string{"a", ""}},
		{"\na", []string{"", "a"}},
		{"a\n\nb", []string{"a", "", "b"}},
		{"a\n ", []string{"a", " "}},
		{" \n", []string{" "}},
		{"a\r\nb\r", []string{"a\r", "b\r"}},
		{"\xff\n\xc3\n\xa9", []string{"\xff", "\xc3", "\xa9"}},
		{"\x00\n", []string{"\x00"}},
		{"a\u2028b\u0085c\v\fd", []string{"a\u2028b\u0085c\v\fd"}},
	}
	for _, c := range cases {
		if got := impl.SplitLines(c.s); !slices.Equal(got, c.want) {
			t.Errorf("SplitLines(%q) = %q, want %q", c.s, got, c.want)
		}
	}
	for _, s := range stringsUpTo("a\n\r\xc3\xa9", 6) {
		want := splitSlowly(s, "\n")
		if want[len(want)-1] == "" {
			want = want[:len(want)-1]
		}
		if got := impl.SplitLines(s); !slices.Equal(got, want) {
			t.Fatalf("SplitLines(%q) = %q, want %q", s, got, want)
		}
	}
}

func TestJoin(t *testing.T) {
	cases := []struct {
		l    []string
		by   string
		want string
	}{
		{nil, ",", ""},
		{[]string{}, ",", ""},
		{[]string{""}, ",", ""},
		{[]string{"a"}, ",", "a"},
		{[]string{"", ""}, ",", ","},
		{[]string{"a", "b", "c"}, "", "abc"},
		{[]string{"a", "b", "c"}, ", ", "a, b, c"},
		{[]string{"", "a", ""}, "-", "-a-"},
		{[]string{"one", "two"}, " and then ", "one and then two"},
		{[]string{"one"}, " and then ", "one"},
		{[]string{"\xc3", "\xff"}, "\xa9", "\xc3\xa9\xff"},
		{[]string{"\x00", "\x00"}, "\n", "\x00\n\x00"},
	}
	for _, c := range cases {
		if got := impl.Join(c.l, c.by); got != c.want {
			t.Errorf("Join(%q, %q) = %q, want %q", c.l, c.by, got, c.want)
		}
	}
}

func TestJoinKeepsItsArgument(t *testing.T) {
	whole := []string{"a", "b", "spare", "spare"}
	if got := impl.Join(whole[:2], "-"); got != "a-b" {
		t.Errorf("Join = %q", got)
	}
	if !slices.Equal(whole, []string{"a", "b", "spare", "spare"}) {
		t.Errorf("Join changed its argument: %q", whole)
	}
}

// TestStringsRecovered checks that strings are recovered from their parts.
func TestStringsRecovered(t *testing.T) {
	for _, s := range stringsUpTo("a,\n\xc3\xff", 6) {
		for _, by := range []string{",", "\n", "\xff", "z"} {
			if got := impl.Join(impl.SplitAny(s, by), by); got != s {
				t.Fatalf("Join(SplitAny(%q, %q)) = %q", s, by, got)
			}
		}
		text := s + "\n"
		if got := impl.Join(impl.SplitLines(text), "\n") + "\n"; got != text {
			t.Fatalf("the lines of %q give %q", text, got)
		}
	}
}

func TestPadZeros(t *testing.T) {
	cases := []struct {
		s    string
		n    int
		want string
	}{
		{"7", 3, "007"}, {"7", 2, "07"}, {"7", 1, "7"}, {"7", 0, "7"}, {"7", -1, "7"},
		{"7", math.MinInt, "7"}, {"7", math.MaxInt, "7"}, {"", math.MinInt, ""}, {"", math.MaxInt, ""},
		{"", 0, ""}, {"", 1, "0"}, {"", 4, "0000"}, {"", -3, ""},
		{"abc", 2, "abc"}, {"abc", 3, "abc"}, {"abc", 4, "0abc"},
		{"-5", 4, "00-5"}, {"00", 3, "000"},
		{"\u20ac", 1, "\u20ac"}, {"\u20ac", 2, "\u20ac"}, {"\u20ac", 4, "0\u20ac"},
		{"\u00e9", 2, "\u00e9"}, {"\u00e9", 3, "0\u00e9"}, {"\xff", 2, "0\xff"}, {"\x00", 2, "0\x00"},
		{"7", 1999, strings.Repeat("0", 1998) + "7"},
		{"7", 2000, strings.Repeat("0", 1999) + "7"},
		{"7", 2001, "7"}, {"7", 2002, "7"}, {"", 2000, strings.Repeat("0", 2000)}, {"", 2001, ""},
		{strings.Repeat("x", 1999), 2000, "0" + strings.Repeat("x", 1999)},
		{strings.Repeat("x", 2000), 2000, strings.Repeat("x", 2000)},
		{strings.Repeat("x", 2000), 2001, strings.Repeat("x", 2000)},
		{strings.Repeat("x", 2001), 2000, strings.Repeat("x", 2001)},
		{strings.Repeat("x", 3000), 4000, strings.Repeat("x", 3000)},
	}
	for _, c := range cases {
		if got := impl.PadZeros(c.s, c.n); got != c.want {
			t.Errorf("PadZeros of %d bytes to %d: %d bytes, want %d", len(c.s), c.n, len(got), len(c.want))
		}
	}
}

// TestTextResultsAreNew checks that changing one result changes no later one.
func TestTextResultsAreNew(t *testing.T) {
	split := func() []string { return impl.SplitAny("a,b", ",") }
	lines := func() []string { return impl.SplitLines("a\nb\n") }
	for _, f := range []func() []string{split, lines} {
		first, second := f(), f()
		for i := range first[:cap(first)] {
			first[:cap(first)][i] = "changed"
		}
		if !slices.Equal(second, []string{"a", "b"}) || !slices.Equal(f(), []string{"a", "b"}) {
			t.Error("two results share memory")
		}
	}
}
