package entity

import (
	"fmt"
	"math/rand"
	"regexp"
	"strconv"
	"strings"
	"testing"
)

// may tells by bounds of its own whether a number is that of a letter which may stand in a text.
func may(r int) bool {
	switch {
	case r == 9 || r == 10 || r == 13:
		return true
	case r >= 0x20 && r <= 0xd7ff, r >= 0xe000 && r <= 0xfffd, r >= 0x10000 && r <= 0x10ffff:
		return true
	}
	return false
}

var (
	words   = map[string]int{"amp": 0x26, "lt": 0x3c, "gt": 0x3e, "quot": 0x22, "apos": 0x27}
	tens    = regexp.MustCompile(`^#([0-9]{1,8})$`)
	sixteen = regexp.MustCompile(`^#x([0-9a-fA-F]{1,8})$`)
)

// one tells by forms what One must answer.
func one(s string) int {
	var r int64
	if m := tens.FindStringSubmatch(s); m != nil {
		r, _ = strconv.ParseInt(m[1], 10, 64)
	} else if m := sixteen.FindStringSubmatch(s); m != nil {
		r, _ = strconv.ParseInt(m[1], 16, 64)
	} else {
		return words[s]
	}
	if may(int(r)) {
		return int(r)
	}
	return 0
}

// open tells what Open must answer, from the first & on, again and again.
func open(s string) (string, int) {
	text, from := "", 0
	for {
		i := strings.Index(s[from:], "&")
		if i < 0 {
			return text + s[from:], -1
		}
		at := from + i
		end := strings.Index(s[at:], ";")
		if end < 0 || one(s[at+1:at+end]) == 0 {
			return "", at
		}
		text += s[from:at] + string(rune(one(s[at+1:at+end])))
		from = at + end + 1
	}
}

// shut tells what Close must answer.
var shut = strings.NewReplacer("&", "&amp;", "<", "&lt;", ">", "&gt;", `"`, "&quot;", "\t", "&#9;", "\n", "&#10;", "\r", "&#13;")

func TestOneOfNames(t *testing.T) {
	for s, want := range words {
		if got := One(s); got != want {
			t.Errorf("One(%q) = %#x, want %#x", s, got, want)
		}
		for _, wrong := range []string{
			strings.ToUpper(s), strings.ToUpper(s[:1]) + s[1:], s[:len(s)-1], s[1:], s + "p", s + " ", " " + s,
			"&" + s, s + ";", "&" + s + ";", "#" + s, "#x" + s, s + "\x00", s + s,
		} {
			if got := One(wrong); got != 0 {
				t.Errorf("One(%q) = %#x", wrong, got)
			}
		}
	}
}

func TestOneOfNumbers(t *testing.T) {
	for s, want := range map[string]int{
		"#9": 9, "#10": 10, "#13": 13, "#32": 0x20, "#38": '&', "#39": '\'', "#60": '<', "#65": 'A', "#233": 0xe9,
		"#x9": 9, "#xA": 10, "#xa": 10, "#xd": 13, "#x20": 0x20, "#x26": '&', "#xe9": 0xe9, "#xE9": 0xe9, "#x20aC": 0x20ac,
		"#127": 0x7f, "#x80": 0x80, "#x10000": 0x10000, "#x1F600": 0x1f600, "#128512": 0x1f600,
		"#55295": 0xd7ff, "#xd7ff": 0xd7ff, "#57344": 0xe000, "#xe000": 0xe000, "#65533": 0xfffd, "#xfffd": 0xfffd,
		"#1114111": 0x10ffff, "#x10ffff": 0x10ffff, "#x10FFFF": 0x10ffff, "#x1fffe": 0x1fffe,
		// Eight digits, noughts among them.
		"#00000065": 'A', "#x00000041": 'A', "#01114111": 0x10ffff, "#x0010ffff": 0x10ffff, "#0000009": 9,
	} {
		if got := One(s); got != want {
			t.Errorf("One(%q) = %#x, want %#x", s, got, want)
		}
	}
}

func TestOneOfNumbersThatMayNotBe(t *testing.T) {
	for _, s := range []string{
		// Letters that may not stand in a text, and numbers of no letter.
		"#0", "#x0", "#00000000", "#x00000000", "#1", "#8", "#11", "#12", "#14", "#31", "#x1", "#x1f",
		"#55296", "#xd800", "#57343", "#xdfff", "#65534", "#65535", "#xfffe", "#xffff",
		"#1114112", "#x110000", "#99999999", "#x7fffffff", "#x80000000", "#xffffffff", "#x80000041",
		// Digits that are missing, too many, or none.
		"", "#", "#x", "x", "x41", "41", "#000000065", "#x000000041", "#100000065", "#x100000041",
		"#4294967361", "#18446744073709551681", "#x10000000000000041",
		"#X41", "#a", "#1a", "#4_1", "#x4_1", "#_41", "#+65", "#-65", "#x+41", "#x-41", "# 65", "#65 ", " #65", "#x 41", "#x41 ",
		"##65", "#x#41", "#xx41", "#x0x41", "#0x41", "#o101", "#b1", "#0b1", "#6.5", "#6e1", "#xg", "#x4g", "#x:", "#x@", "#x`", "#x/", "#/", "#:",
		"#65;", "#65\x00", "#\x00", "#\xff", "\xff", "#\uff11", "#\u0661",
		"#" + strings.Repeat("0", 1000) + "65", "#x" + strings.Repeat("0", 1000) + "41",
	} {
		if got := One(s); got != 0 {
			t.Errorf("One(%.30q) = %#x", s, got)
		}
	}
}

func TestOneOfEachNumber(t *testing.T) {
	for r := 0; r <= 0x110020; r++ {
		want := 0
		if may(r) {
			want = r
		}
		for _, s := range []string{
			"#" + strconv.Itoa(r), "#x" + strconv.FormatInt(int64(r), 16), fmt.Sprintf("#%08d", r), fmt.Sprintf("#x%08X", r),
		} {
			if got := One(s); got != want {
				t.Fatalf("One(%q) = %#x, want %#x", s, got, want)
			}
		}
		for _, s := range []string{fmt.Sprintf("#%09d", r), fmt.Sprintf("#x%09x", r)} {
			if got := One(s); got != 0 {
				t.Fatalf("One(%q) = %#x", s, got)
			}
		}
	}
}

// TestOneOfShortTexts goes over all texts of two bytes at most, alone and behind each mark, and over those of three that begin as a mark or a name may.
func TestOneOfShortTexts(t *testing.T) {
	try := func(s string) {
		if got, want := One(s), one(s); got != want {
			t.Fatalf("One(%q) = %#x, want %#x", s, got, want)
		}
	}
	try("")
	for i := range 256 {
		try(string([]byte{byte(i)}))
		for j := range 256 {
			s := string([]byte{byte(i), byte(j)})
			try(s)
			try("#" + s)
			try("#x" + s)
			if !strings.Contains("#&aglq0", s[:1]) {
				continue
			}
			for k := range 256 {
				try(s + string([]byte{byte(k)}))
			}
		}
	}
}

func TestOpen(t *testing.T) {
	for _, c := range []struct{ s, want string }{
		{"", ""},
		{"abc", "abc"},
		{"a&amp;b", "a&b"},
		{"&amp;&lt;&gt;&quot;&apos;", "&<>\"'"},
		{"&#65;&#x42;&#x63;", "ABc"},
		{"x&#233;y&#x20ac;z&#x1F600;", "x\u00e9y\u20acz\U0001f600"},
		{"&#9;&#10;&#13;", "\t\n\r"},
		{"&#x10ffff;&#xfffd;", "\U0010ffff\ufffd"},
		// What was opened is not opened again.
		{"&amp;lt;", "&lt;"},
		{"&amp;amp;", "&amp;"},
		{"&#38;#65;", "&#65;"},
		{"&amp;&amp;amp;", "&&amp;"},
		// All else stays as it is, other letters that Close would write as names, and bytes of no letter, too.
		{";", ";"},
		{";;&lt;;", ";;<;"},
		{"<a>\"'\t\r\n;#x", "<a>\"'\t\r\n;#x"},
		{"amp;lt;#65;", "amp;lt;#65;"},
		{"\x00\xff&lt;\x80\xc3", "\x00\xff<\x80\xc3"},
		{"\u00e9&lt;\u20ac", "\u00e9<\u20ac"},
		{strings.Repeat("&lt;", 1000), strings.Repeat("<", 1000)},
	} {
		if got, at := Open(c.s); got != c.want || at != -1 {
			t.Errorf("Open(%.30q) = %.30q, %d, want %.30q", c.s, got, at, c.want)
		}
	}
}

func TestOpenOfNone(t *testing.T) {
	for _, c := range []struct {
		s    string
		want int
	}{
		{"&", 0},
		{"&;", 0},
		{"a&", 1},
		{"a&b", 1},
		{"&amp", 0}, // it has no ;
		{"&lt;&amp", 4},
		{"ab&none;c", 2},
		{"&AMP;", 0},
		{"&nbsp;", 0},
		{"& amp;", 0},
		{"&amp ;", 0},
		{"&&amp;", 0}, // up to the next ; is &amp
		{"a&b&amp;", 1},
		{"&am&amp;p;", 0},
		{"&#;", 0},
		{"&#x;", 0},
		{"&#X41;", 0},
		{"&#0;", 0},
		{"&#xfffe;", 0},
		{"&#xd800;", 0},
		{"&#x110000;", 0},
		{"&#000000065;", 0},
		{"&lt;&gt;&#0;&none;", 8}, // the first counts
		{"&none;&lt;&", 0},
		{"\u00e9&none;", 2}, // bytes, not letters, ahead of it
		{"\xff&none;", 1},
		{"&amp;&", 5},
		{"&amp;;&;", 6},
		{strings.Repeat("&lt;", 1000) + "&lt", 4000},
		{"&" + strings.Repeat("a", 1000) + ";", 0},
		{strings.Repeat("&", 1000), 0},
	} {
		if got, at := Open(c.s); got != "" || at != c.want {
			t.Errorf("Open(%.30q) = %.30q, %d, want %d", c.s, got, at, c.want)
		}
	}
}

func TestCloseOfEachByte(t *testing.T) {
	written := map[byte]string{
		'&': "&amp;", '<': "&lt;", '>': "&gt;", '"': "&quot;", 9: "&#9;", 10: "&#10;", 13: "&#13;",
	}
	for i := range 256 {
		c := string([]byte{byte(i)})
		want, found := written[byte(i)]
		if !found {
			want = c
		}
		if got := Close(c); got != want {
			t.Errorf("Close(%q) = %q, want %q", c, got, want)
		}
		if got := Close("a" + c + c + "'"); got != "a"+want+want+"'" {
			t.Errorf("Close of %q within a text = %q", c, got)
		}
	}
}

func TestClose(t *testing.T) {
	for _, c := range []struct{ s, want string }{
		{"", ""},
		{"abc", "abc"},
		{"a&b", "a&amp;b"},
		{"&amp;", "&amp;amp;"}, // names are letters like others
		{"<a b=\"c\" d='e'/>", "&lt;a b=&quot;c&quot; d='e'/&gt;"},
		{"a\r\n\tb c\n", "a&#13;&#10;&#9;b c&#10;"},
		{"\u00e9\u20ac\U0001f600\x7f", "\u00e9\u20ac\U0001f600\x7f"},
		{"\x00\x0b\xff\x80;#", "\x00\x0b\xff\x80;#"},
		{"]]>", "]]&gt;"},
		{strings.Repeat("&", 1000), strings.Repeat("&amp;", 1000)},
	} {
		if got := Close(c.s); got != c.want {
			t.Errorf("Close(%.30q) = %.30q, want %.30q", c.s, got, c.want)
		}
	}
}

// TestDrawnTexts holds texts, put together from pieces that matter, against the test's own ways.
func TestDrawnTexts(t *testing.T) {
	pieces := []string{
		"&", ";", "#", "x", "X", "amp", "lt", "gt", "quot", "apos", "&amp;", "&lt;", "&apos;", "&#65;", "&#x41;", "&#x1f600;", "&#0;",
		"6", "00", "\t", "\n", "\r", " ", "<", ">", "\"", "'", "a", "\u00e9", "\u20ac", "\xff", "\x80", "\x00",
	}
	dice := rand.New(rand.NewSource(1))
	for range 200000 {
		s := ""
		for range dice.Intn(7) {
			s += pieces[dice.Intn(len(pieces))]
		}
		want, wantAt := open(s)
		if got, at := Open(s); got != want || at != wantAt {
			t.Fatalf("Open(%q) = %q, %d, want %q, %d", s, got, at, want, wantAt)
		}
		if got := One(s); got != one(s) {
			t.Fatalf("One(%q) = %#x, want %#x", s, got, one(s))
		}
		shown := Close(s)
		if shown != shut.Replace(s) {
			t.Fatalf("Close(%q) = %q", s, shown)
		}
		// What was closed opens again.
		if got, at := Open(shown); got != s || at != -1 {
			t.Fatalf("Open(Close(%q)) = %q, %d", s, got, at)
		}
	}
}
