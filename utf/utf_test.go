package utf

import (
	"math"
	"strings"
	"testing"

	"galliard/api"
)

// encode tells a letter's bytes by arithmetic alone, so that the package is held against something else than itself.
func encode(r int) string {
	switch {
	case r < 0x80:
		return string([]byte{byte(r)})
	case r < 0x800:
		return string([]byte{byte(0xc0 | r>>6), byte(0x80 | r&0x3f)})
	case r < 0x10000:
		return string([]byte{byte(0xe0 | r>>12), byte(0x80 | r>>6&0x3f), byte(0x80 | r&0x3f)})
	}
	return string([]byte{byte(0xf0 | r>>18), byte(0x80 | r>>12&0x3f), byte(0x80 | r>>6&0x3f), byte(0x80 | r&0x3f)})
}

// letters tells of all letters' bytes which letter they are.
func letters() map[string]int {
	m := make(map[string]int, api.MaxRune)
	for r := 0; r <= 0x10ffff; r++ {
		if r < 0xd800 || r > 0xdfff {
			m[encode(r)] = r
		}
	}
	return m
}

var notLetters = []int{
	-1, -2, -0x80, math.MinInt, math.MinInt32,
	0xd800, 0xd801, 0xdbff, 0xdc00, 0xdffe, 0xdfff,
	0x110000, 0x110001, 0x1fffff, math.MaxInt32, math.MaxInt,
	// Their lower 32 bits alone would be those of letters.
	1 << 32, 1<<32 + 'a', -1<<32 + 'a',
}

func TestMayAndSizeAtEdges(t *testing.T) {
	sizes := map[int]int{
		0: 1, 1: 1, 'a': 1, 0x7f: 1,
		0x80: 2, 0xe9: 2, 0x7ff: 2,
		0x800: 3, 0xd7ff: 3, 0xe000: 3, 0xfffd: 3, 0xfffe: 3, 0xffff: 3,
		0x10000: 4, 0x10fffe: 4, 0x10ffff: 4,
	}
	for r, want := range sizes {
		if !May(r) {
			t.Errorf("May(%#x) is false", r)
		}
		if got := Size(r); got != want {
			t.Errorf("Size(%#x) = %d, want %d", r, got, want)
		}
	}
}

func TestNumbersOfNoLetter(t *testing.T) {
	for _, r := range notLetters {
		if May(r) {
			t.Errorf("May(%#x) is true", r)
		}
		if got := Size(r); got != 0 {
			t.Errorf("Size(%#x) = %d", r, got)
		}
		if got := Put(r); got != "" {
			t.Errorf("Put(%#x) = %q", r, got)
		}
	}
}

func TestEachNumber(t *testing.T) {
	for r := -10; r <= api.MaxRune+10; r++ {
		may := r >= 0 && r <= 0x10ffff && !(0xd800 <= r && r <= 0xdfff)
		if May(r) != may {
			t.Fatalf("May(%#x) = %v", r, !may)
		}
		if !may {
			if Size(r) != 0 || Put(r) != "" {
				t.Fatalf("%#x: Size %d, Put %q", r, Size(r), Put(r))
			}
			continue
		}
		want := encode(r)
		if Put(r) != want || Size(r) != len(want) {
			t.Fatalf("%#x: Put %x, Size %d, want %x", r, Put(r), Size(r), want)
		}
		if got, n := Get(want, 0); got != r || n != len(want) {
			t.Fatalf("Get(%x, 0) = %#x, %d", want, got, n)
		}
		if Bad(want) != -1 || Count(want) != 1 {
			t.Fatalf("%x: Bad %d, Count %d", want, Bad(want), Count(want))
		}
	}
}

func TestGetAtPlaces(t *testing.T) {
	s := "a\u00e9\u20ac\U0001f600\x00z"
	want := map[int][2]int{
		0: {'a', 1}, 1: {0xe9, 2}, 3: {0x20ac, 3}, 6: {0x1f600, 4}, 10: {0, 1}, 11: {'z', 1},
	}
	for at := -3; at <= len(s)+3; at++ {
		r, n := Get(s, at)
		if w := want[at]; r != w[0] || n != w[1] {
			t.Errorf("Get(s, %d) = %#x, %d, want %#x, %d", at, r, n, w[0], w[1])
		}
	}
	for _, at := range []int{math.MinInt, math.MaxInt, 0} {
		if r, n := Get("", at); r != 0 || n != 0 {
			t.Errorf("Get of nothing at %d = %#x, %d", at, r, n)
		}
	}
}

func TestLetterThatStandsForWrongOnes(t *testing.T) {
	if r, n := Get("\xef\xbf\xbd", 0); r != 0xfffd || n != 3 {
		t.Errorf("Get of fffd = %#x, %d", r, n)
	}
	if Bad("\xef\xbf\xbd") != -1 || Count("\xef\xbf\xbd") != 1 {
		t.Error("fffd counts as none")
	}
}

func TestBytesOfNoLetter(t *testing.T) {
	wrong := []string{
		"\x80", "\xbf", "\xff", "\xfe", "\xf8\x88\x80\x80\x80", // they begin nothing
		"\xc3", "\xe2\x82", "\xf0\x9f\x98", // cut
		"\xc3a", "\xe2\x82a", "\xf0\x9f\x98a", "\xe2a\x82", // go on wrongly
		"\xc0\x80", "\xc1\xbf", "\xe0\x80\x80", "\xe0\x9f\xbf", "\xf0\x80\x80\x80", "\xf0\x8f\xbf\xbf", // more than need be
		"\xed\xa0\x80", "\xed\xbf\xbf", // halves
		"\xf4\x90\x80\x80", "\xf5\x80\x80\x80", "\xf7\xbf\xbf\xbf", // above MaxRune
	}
	for _, w := range wrong {
		if r, n := Get(w, 0); r != 0 || n != 0 {
			t.Errorf("Get(%x, 0) = %#x, %d", w, r, n)
		}
		for _, ahead := range []string{"", "a", "a\u00e9\u20ac\U0001f600"} {
			s := ahead + w + "b\u00e9"
			if got := Bad(s); got != len(ahead) {
				t.Errorf("Bad(%x) = %d, want %d", s, got, len(ahead))
			}
			if got, want := Count(s), len([]rune(ahead)); got != want {
				t.Errorf("Count(%x) = %d, want %d", s, got, want)
			}
		}
	}
}

func TestBadAndCountOfTexts(t *testing.T) {
	for _, c := range []struct {
		s     string
		bad   int
		count int
	}{
		{"", -1, 0},
		{"abc", -1, 3},
		{"\x00\x00", -1, 2},
		{"a\u00e9\u20ac\U0001f600", -1, 4},
		{"a\xff", 1, 1},
		{"\xffabc", 0, 0},
		{"\u00e9\xa9", 2, 1},       // a byte too many behind a letter
		{"ab\xc3", 2, 2},           // cut at the end
		{"a\xffb\xff", 1, 1},       // the first counts
		{"\xe2\x82\x20\xac", 0, 0}, // the place where it begins, not where it goes wrong
		{strings.Repeat("\u20ac", 1000), -1, 1000},
	} {
		if got := Bad(c.s); got != c.bad {
			t.Errorf("Bad(%.20q) = %d, want %d", c.s, got, c.bad)
		}
		if got := Count(c.s); got != c.count {
			t.Errorf("Count(%.20q) = %d, want %d", c.s, got, c.count)
		}
	}
}

// TestAllShortBytes goes over all bytes at the edges of UTF-8's table, four of them, one behind the other.
func TestAllShortBytes(t *testing.T) {
	edges := []byte{
		0x00, 0x41, 0x7f, 0x80, 0x8f, 0x90, 0x9f, 0xa0, 0xbf, 0xc0, 0xc1, 0xc2, 0xdf,
		0xe0, 0xe1, 0xec, 0xed, 0xee, 0xef, 0xf0, 0xf1, 0xf3, 0xf4, 0xf5, 0xf7, 0xf8, 0xff,
	}
	known := letters()
	try := func(b []byte) {
		s := string(b)
		wantR, wantN := 0, 0
		for n := 1; n <= len(s); n++ {
			if r, ok := known[s[:n]]; ok {
				wantR, wantN = r, n
				break
			}
		}
		if r, n := Get(s, 0); r != wantR || n != wantN {
			t.Fatalf("Get(%x, 0) = %#x, %d, want %#x, %d", s, r, n, wantR, wantN)
		}
	}
	for _, a := range edges {
		try([]byte{a})
		for _, b := range edges {
			try([]byte{a, b})
			for _, c := range edges {
				try([]byte{a, b, c})
				for _, d := range edges {
					try([]byte{a, b, c, d})
				}
			}
		}
	}
}
