package chars

import (
	"math"
	"strings"
	"testing"

	"galliard/api"
)

const (
	small  = "abcdefghijklmnopqrstuvwxyz"
	great  = "ABCDEFGHIJKLMNOPQRSTUVWXYZ"
	digits = "0123456789"
)

// high is whether a byte is one from 80 (hex) on, told by its first bit.
func high(c byte) bool { return c>>7 == 1 }

func among(c byte, s string) bool {
	for i := range len(s) {
		if s[i] == c {
			return true
		}
	}
	return false
}

func TestEachByte(t *testing.T) {
	for i := range 256 {
		c := byte(i)
		if got, want := Blank(c), i == 0x20 || i == 9 || i == 10 || i == 13; got != want {
			t.Errorf("Blank(%#x) = %v", c, got)
		}
		start := among(c, small+great+"_") || high(c)
		if got := Start(c); got != start {
			t.Errorf("Start(%#x) = %v", c, got)
		}
		if got, want := Part(c), start || among(c, digits+"-."); got != want {
			t.Errorf("Part(%#x) = %v", c, got)
		}
	}
}

func TestLetterAtEdges(t *testing.T) {
	for _, r := range []int{
		9, 10, 13, 0x20, 0x21, 'a', '<', 0x7e, 0x7f, 0x80, 0x85, 0xa0, 0xe9, 0xd7ff, 0xe000, 0xfeff,
		0xfdd0, 0xfffd, 0x10000, 0x1fffe, 0x1ffff, 0x10fffe, 0x10ffff,
	} {
		if !Letter(r) {
			t.Errorf("Letter(%#x) is false", r)
		}
	}
	for _, r := range []int{
		math.MinInt, -1, -9, 0, 1, 8, 11, 12, 14, 0x1f, 0xd800, 0xdbff, 0xdc00, 0xdfff, 0xfffe, 0xffff,
		0x110000, 0x7fffffff, math.MaxInt, 1<<32 + 'a', 1<<32 + 9, -1<<32 + 'a',
	} {
		if Letter(r) {
			t.Errorf("Letter(%#x) is true", r)
		}
	}
}

func TestEachLetter(t *testing.T) {
	may := make([]bool, 0x110020)
	for _, r := range [][2]int{{9, 10}, {13, 13}, {0x20, 0xd7ff}, {0xe000, 0xfffd}, {0x10000, 0x10ffff}} {
		for i := r[0]; i <= r[1]; i++ {
			may[i] = true
		}
	}
	for r, want := range may {
		if Letter(r) != want {
			t.Fatalf("Letter(%#x) = %v", r, !want)
		}
		if r > 0x10ffff || r >= 0xd800 && r <= 0xdfff {
			continue
		}
		place := 1
		if want {
			place = -1
		}
		if got := Text("a" + string(rune(r))); got != place {
			t.Fatalf("Text of a, %#x = %d, want %d", r, got, place)
		}
	}
}

func TestNames(t *testing.T) {
	for _, s := range []string{
		"a", "z", "A", "Z", "_", "__", "a0", "a9", "a-", "a.", "a-b.c_9", "_1", "pa", "StartEvent_1",
		"\u00e9", "a\u00e9", "\u00e91", "\u20ac-", "\U0001f600", "a\U0010ffff",
		// They may not stand in a text, but a name's bytes are just those of letters.
		"\ufffe", "a\uffff",
	} {
		if !Name(s) {
			t.Errorf("Name(%q) is false", s)
		}
	}
	for _, s := range []string{
		"", " ", "0", "9a", "-", "-a", ".", ".a", ":", "a:b", "a:", ":a", "a b", " a", "a ", "a\t", "a\n", "a\x00", "\x00",
		"a/", "a@", "a[", "a`", "a{", "@", "[", "`", "{", "a,", "a&", "a<", "a>", "a=", "a'", "a\"", "a\x7f", "a;", "a+",
		"\x80", "\xff", "a\xff", "\xc3", "a\xc3", "\xa9\xc3", "\xc3b", "\xc0\x80", "\xed\xa0\x80", "\xf4\x90\x80\x80", "\u00e9\xa9",
	} {
		if Name(s) {
			t.Errorf("Name(%q) is true", s)
		}
	}
}

func TestNamesOfManyBytes(t *testing.T) {
	for _, letter := range []string{"a", "\u00e9", "\u20ac", "\U0001f600"} {
		full := strings.Repeat(letter, api.MaxName/len(letter))
		if len(full) != 60 {
			t.Fatalf("%q: %d bytes", letter, len(full))
		}
		if !Name(full) {
			t.Errorf("60 bytes of %q are no name", letter)
		}
		for _, more := range []string{"a", "1", letter, strings.Repeat(letter, 1000)} {
			if Name(full + more) {
				t.Errorf("%d bytes of %q are a name", len(full+more), letter)
			}
		}
	}
	if !Name("a" + strings.Repeat("1", 59)) {
		t.Error("a and 59 digits are no name")
	}
	// Bytes are counted, not letters; nor is a letter cut.
	if Name("a" + strings.Repeat("\u00e9", 30)) {
		t.Error("61 bytes of 31 letters are a name")
	}
	if s := "a" + strings.Repeat("\u00e9", 30); Name(s[:60]) {
		t.Error("a name ends within a letter")
	}
	// Each place counts, the last one, too.
	for i := range 60 {
		b := []byte(strings.Repeat("a", 60))
		b[i] = ' '
		if Name(string(b)) {
			t.Errorf("a name has a blank at %d", i)
		}
	}
}

// TestNamesOfAllPairs holds names of two bytes against the bytes' own kinds; from 80 (hex) on two bytes are one letter.
func TestNamesOfAllPairs(t *testing.T) {
	for i := range 256 {
		for j := range 256 {
			a, b := byte(i), byte(j)
			want := among(a, small+great+"_") && among(b, small+great+"_"+digits+"-.")
			if high(a) {
				want = i >= 0xc2 && i <= 0xdf && j >= 0x80 && j <= 0xbf
			}
			if got := Name(string([]byte{a, b})); got != want {
				t.Fatalf("Name(%x %x) = %v", a, b, got)
			}
		}
	}
}

func TestText(t *testing.T) {
	for _, c := range []struct {
		s    string
		want int
	}{
		{"", -1},
		{"abc", -1},
		{" \t\r\n<&>\x7f", -1},
		{"a\u00e9\u20ac\U0001f600\ufffd", -1},
		{"\x00", 0},
		{"a\x00", 1},
		{"ab\x0b", 2},
		{"ab\x1f\x1e", 2},
		{"\u00e9\ufffe", 2},
		{"\u20ac\uffffa", 3},
		{"\U0001f600\x08", 4},
		{"a\xff", 1},
		{"\xff\x00", 0},
		{"a\x00\xff", 1},
		{"a\xe2\x82", 1}, // where it begins, not where it goes wrong
		{"\u00e9\xa9", 2},
		{"a\xed\xa0\x80", 1},
		{"a\xc0\x8a", 1},
		{"a\xf4\x90\x80\x80", 1},
		{strings.Repeat("\u20ac", 1000), -1},
		{strings.Repeat("\u20ac", 1000) + "\x01", 3000},
	} {
		if got := Text(c.s); got != c.want {
			t.Errorf("Text(%.20q) = %d, want %d", c.s, got, c.want)
		}
	}
}

func TestTrimAndEmpty(t *testing.T) {
	for _, c := range []struct{ s, want string }{
		{"", ""},
		{" ", ""},
		{" \t\r\n\n\t ", ""},
		{"a", "a"},
		{" a", "a"},
		{"a ", "a"},
		{"\t\n\r a b\tc\n\r \t", "a b\tc"},
		{"\x00 ", "\x00"},
		{"\x0ba\x0c", "\x0ba\x0c"},         // no blanks here, if elsewhere
		{"\u00a0a\u0085", "\u00a0a\u0085"}, // nor these
		{"\u2003", "\u2003"},               // nor this
		{" \xff \x80 ", "\xff \x80"},       // bytes of no letter stay as they are
		{"\u0120 \u0120", "\u0120 \u0120"}, // its number's lowest byte alone would be a blank
		{" \u00e9\u20ac\n", "\u00e9\u20ac"},
		{strings.Repeat(" ", 1000) + "x", "x"},
		{strings.Repeat("\n", 1000), ""},
	} {
		if got := Trim(c.s); got != c.want {
			t.Errorf("Trim(%.20q) = %q, want %q", c.s, got, c.want)
		}
		if got, want := Empty(c.s), c.want == ""; got != want {
			t.Errorf("Empty(%.20q) = %v", c.s, got)
		}
	}
}

func TestTrimOfEachByte(t *testing.T) {
	for i := range 256 {
		c := string([]byte{byte(i)})
		want := c + "x" + c
		if i == 0x20 || i == 9 || i == 10 || i == 13 {
			want = "x"
		}
		if got := Trim(c + "x" + c); got != want {
			t.Errorf("Trim of x within %#x = %q", i, got)
		}
		if got := Empty(c); got != (want == "x") {
			t.Errorf("Empty of %#x = %v", i, got)
		}
	}
}

func TestSplit(t *testing.T) {
	long := strings.Repeat("a", 60)
	for _, c := range []struct {
		s, prefix, rest string
		ok              bool
	}{
		{"a:b", "a", "b", true},
		{"xmlns:bpmn2", "xmlns", "bpmn2", true},
		{"a", "", "a", true},
		{"_1.-", "", "_1.-", true},
		{"\u00e9:\u20ac", "\u00e9", "\u20ac", true},
		{long, "", long, true},
		{long + ":" + long, long, long, true}, // each is counted for itself
		{"", "", "", false},
		{":", "", "", false},
		{":b", "", "b", false}, // no name ahead of a colon is another thing than no colon
		{"a:", "a", "", false},
		{"a:b:c", "a", "b:c", false},
		{"a::b", "a", ":b", false},
		{"1:b", "1", "b", false},
		{"a:1", "a", "1", false},
		{"a :b", "a ", "b", false},
		{"a: b", "a", " b", false},
		{"1", "", "1", false},
		{" a", "", " a", false},
		{"a\xff", "", "a\xff", false},
		{"\xff:b", "\xff", "b", false},
		{"a:\xff", "a", "\xff", false},
		{long + "a", "", long + "a", false},
		{long + "a:b", long + "a", "b", false},
		{"b:" + long + "a", "b", long + "a", false},
	} {
		prefix, rest, ok := Split(c.s)
		if prefix != c.prefix || rest != c.rest || ok != c.ok {
			t.Errorf("Split(%q) = %q, %q, %v", c.s, prefix, rest, ok)
		}
	}
}
