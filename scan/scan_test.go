package scan

import (
	"fmt"
	"math"
	"math/rand"
	"reflect"
	"regexp"
	"strconv"
	"strings"
	"testing"

	"galliard/api"
)

// all is what a document comes to: its pieces, then what is wrong, and where it is.
func all(s string) ([]api.Piece, api.Errno, int) {
	c := New(s)
	var l []api.Piece
	for {
		p := c.Next()
		if p.Kind == api.PieceEnd {
			return l, c.Err(), c.At()
		}
		l = append(l, p)
	}
}

// show writes pieces: what each is, where it begins, and what it tells.
func show(l []api.Piece) string {
	var b strings.Builder
	for _, p := range l {
		fmt.Fprintf(&b, "%d %d %q %q", p.At, p.Kind, p.Name, p.Text)
		for _, a := range p.Attrs {
			fmt.Fprintf(&b, " %q=%q", a.Name, a.Value)
		}
		b.WriteString("\n")
	}
	return b.String()
}

// attrs is a list of attributes: a name, its value, and so on.
func attrs(l ...string) []api.Attr {
	var out []api.Attr
	for i := 0; i < len(l); i += 2 {
		out = append(out, api.Attr{Name: l[i], Value: l[i+1]})
	}
	return out
}

func open(at int, name string, l ...string) api.Piece {
	return api.Piece{Kind: api.PieceOpen, Name: name, Attrs: attrs(l...), At: at}
}

func empty(at int, name string, l ...string) api.Piece {
	return api.Piece{Kind: api.PieceEmpty, Name: name, Attrs: attrs(l...), At: at}
}

func shut(at int, name string) api.Piece {
	return api.Piece{Kind: api.PieceClose, Name: name, At: at}
}

func text(at int, s string) api.Piece {
	return api.Piece{Kind: api.PieceText, Text: s, At: at}
}

// many is an opening piece of an element a with so many attributes, and what stands behind these.
func many(n int, behind string) (string, []string) {
	s, l := "<a", []string(nil)
	for i := range n {
		s += " b" + strconv.Itoa(i) + "='" + strconv.Itoa(i) + "'"
		l = append(l, "b"+strconv.Itoa(i), strconv.Itoa(i))
	}
	return s + behind, l
}

func TestPieces(t *testing.T) {
	sixteen, known := many(api.MaxAttrs, ">")
	sixteenEmpty, _ := many(api.MaxAttrs, " />")
	long := strings.Repeat("n", api.MaxName)
	for _, c := range []struct {
		s    string
		want []api.Piece
	}{
		{"", nil},
		{"<a b='c'/>", []api.Piece{empty(0, "a", "b", "c")}},
		{"<a>", []api.Piece{open(0, "a")}},
		{"<a/>", []api.Piece{empty(0, "a")}},
		{"</a>", []api.Piece{shut(0, "a")}},
		{"</a \t\r\n>", []api.Piece{shut(0, "a")}},
		{"<a \n>", []api.Piece{open(0, "a")}},
		{"<a\t/>", []api.Piece{empty(0, "a")}},
		{"<a b='c'>", []api.Piece{open(0, "a", "b", "c")}},
		{"<a b='c' >", []api.Piece{open(0, "a", "b", "c")}},
		{"<a b='c' />", []api.Piece{empty(0, "a", "b", "c")}},
		{"<a\r\n\t b \t=\r\n 'c'  d=\"e\"\t/>", []api.Piece{empty(0, "a", "b", "c", "d", "e")}},
		{"<a z='1' y='2' x='3'>", []api.Piece{open(0, "a", "z", "1", "y", "2", "x", "3")}},
		// A quote of the other kind, ends of pieces, and all else but < are letters of an attribute's text.
		{`<a b="it's" c='"' d='' e="/>">`, []api.Piece{open(0, "a", "b", "it's", "c", `"`, "d", "", "e", "/>")}},
		{"<a b=' c\t\n= '/>", []api.Piece{empty(0, "a", "b", " c\t\n= ")}},
		{"<a b='&lt;&#65;&amp;lt;&quot;&apos;'/>", []api.Piece{empty(0, "a", "b", "<A&lt;\"'")}},
		{"<a b='-->?>]]>'/>", []api.Piece{empty(0, "a", "b", "-->?>]]>")}},
		{sixteen, []api.Piece{open(0, "a", known...)}},
		{sixteenEmpty, []api.Piece{empty(0, "a", known...)}},

		// Names, as they are written.
		{"<p:a q:b='c'/></p:a>", []api.Piece{empty(0, "p:a", "q:b", "c"), shut(14, "p:a")}},
		{"<_-.9 A='' a=''/>", []api.Piece{empty(0, "_-.9", "A", "", "a", "")}},
		{"<\u00e9\u20ac \U0001f600='\u00e9'/>", []api.Piece{empty(0, "\u00e9\u20ac", "\U0001f600", "\u00e9")}},
		{"<p:a p:b='' b='' q:b=''/>", []api.Piece{empty(0, "p:a", "p:b", "", "b", "", "q:b", "")}},
		{"<" + long + ":" + long + "/>", []api.Piece{empty(0, long+":"+long)}},

		// Texts.
		{"abc", []api.Piece{text(0, "abc")}},
		{" ", []api.Piece{text(0, " ")}},
		{" \r\n\t<a> b &amp;&#x20ac;> c\u00e9\r\n</a>\n", []api.Piece{
			text(0, " \r\n\t"), open(4, "a"), text(7, " b &\u20ac> c\u00e9\r\n"), shut(30, "a"), text(34, "\n"),
		}},
		{"a>b/>c]]>d-->e?>f=\"'", []api.Piece{text(0, "a>b/>c]]>d-->e?>f=\"'")}},
		{"&amp;lt;a>", []api.Piece{text(0, "&lt;a>")}},
		{"<![CDATA[]]>", []api.Piece{text(0, "")}},
		{"<![CDATA[<a b='&amp;'>&none;<!--]]>]]>", []api.Piece{text(0, "<a b='&amp;'>&none;<!--"), text(35, "]]>")}},
		{"a<![CDATA[b]]]]]><![CDATA[>]]>c", []api.Piece{text(0, "a"), text(1, "b]]]"), text(17, ">"), text(30, "c")}},
		{"<![CDATA[<![CDATA[]]>", []api.Piece{text(0, "<![CDATA[")}},

		// What says nothing; a text ends at it, and another one begins behind it.
		{"<!---->", nil},
		{"<!---->-->-->", []api.Piece{text(7, "-->-->")}},
		{"<!-- a - b -> <c> & \u00e9 -->", nil},
		{"<!--> -->", nil},
		{"<!-->-->", nil},
		{"<!--->-->", nil},
		{"<!--<!-->", nil},
		{"<!--- a-->", nil},
		{"<??>", nil},
		{"<?xml version='1.0'?>", nil},
		{"<?a ? > <b> & -- ??>", nil},
		{"<?<??>", nil},
		{"<!--a--><?b?><!--c--><a/><?d?><!----></a><!--e-->", []api.Piece{empty(21, "a"), shut(37, "a")}},
		{"a<!--b-->c<?d?>e", []api.Piece{text(0, "a"), text(9, "c"), text(15, "e")}},
		{"<a><b/>c</a>", []api.Piece{open(0, "a"), empty(3, "b"), text(7, "c"), shut(8, "a")}},
		// Which element is closed, and what is within what, is another layer's.
		{"</a><b></c><b/>", []api.Piece{shut(0, "a"), open(4, "b"), shut(7, "c"), empty(11, "b")}},
	} {
		got, e, at := all(c.s)
		if show(got) != show(c.want) || e != api.OK || at != len(c.s) {
			t.Errorf("%q: error %d at %d\n%swant\n%s", c.s, e, at, show(got), show(c.want))
		}
	}
}

func TestWhatIsWrong(t *testing.T) {
	seventeen, _ := many(api.MaxAttrs, " c='1'>")
	more, _ := many(api.MaxAttrs, "  ?>")
	long := strings.Repeat("n", api.MaxName+1)
	for _, c := range []struct {
		s      string
		at     int
		pieces int // ahead of it
	}{
		// Names that are none, where they begin.
		{"<", 1, 0}, {"<>", 1, 0}, {"</", 2, 0}, {"</>", 2, 0}, {"< a>", 1, 0}, {"</ a>", 2, 0}, {"<1a>", 1, 0}, {"<-a/>", 1, 0},
		{"<:a>", 1, 0}, {"<a:>", 1, 0}, {"<a:b:c>", 1, 0}, {"<a::b>", 1, 0}, {"<a:1>", 1, 0}, {"<:>", 1, 0}, {"</a:b:c>", 2, 0},
		{"<" + long + ">", 1, 0}, {"<a:" + long + ">", 1, 0}, {"</" + long + ">", 2, 0}, {"<a " + long + "=''>", 3, 0},
		{"<!DOCTYPE a>", 1, 0}, {"<!>", 1, 0}, {"<!", 1, 0}, {"<!-", 1, 0}, {"<!- a -->", 1, 0}, {"<![cdata[a]]>", 1, 0}, {"<![CDATA", 1, 0}, {"< ?a?>", 1, 0},
		{"<//a>", 2, 0}, {"</>a", 2, 0}, {"<a><", 4, 1}, {"<<a>", 1, 0}, {"<=", 1, 0}, {"<&amp;>", 1, 0},
		{"<a 1='b'>", 3, 0}, {"<a ='b'>", 3, 0}, {"<a 'b'>", 3, 0}, {"<a b='c' :d=''>", 9, 0}, {"<a b:c:d=''>", 3, 0}, {"<a ", 3, 0}, {"<a b='c' ", 9, 0}, {"<a  <", 4, 0},

		// Where something else must stand.
		{"<a", 2, 0}, {"<a<b>", 2, 0}, {"<a&amp;>", 2, 0}, {"<a=''>", 2, 0}, {"<a'b'>", 2, 0},
		{"</a", 3, 0}, {"</a ", 4, 0}, {"</a b>", 4, 0}, {"</a/>", 3, 0}, {"</a b='c'>", 4, 0}, {"</a<", 3, 0},
		{"<a b", 4, 0}, {"<a b>", 4, 0}, {"<a b/>", 4, 0}, {"<a b c='d'>", 5, 0}, {"<a b 'c'>", 5, 0}, {"<a b\t", 5, 0},
		{"<a b=", 5, 0}, {"<a b=>", 5, 0}, {"<a b=c>", 5, 0}, {"<a b= c='d'>", 6, 0}, {"<a b==''>", 5, 0}, {"<a b=<''>", 5, 0}, {"<a b=`c`>", 5, 0}, {"<a b= ", 6, 0},
		{"<a/", 2, 0}, {"<a/b>", 2, 0}, {"<a/ >", 2, 0}, {"<a /b>", 3, 0}, {"<a / >", 3, 0}, {"<a//>", 2, 0}, {"<a ?>", 3, 0},

		// Texts: at the letter, or the &; a letter counts ahead of an &.
		{"\x00", 0, 0}, {"a\x01b", 1, 0}, {"ab\x0b<a/>", 2, 0}, {"\u00e9\uffff", 2, 0}, {"<a>b\x1f</a>", 4, 1}, {"<!--b-->\ufffe", 8, 0},
		{"&", 0, 0}, {"a&b", 1, 0}, {"a&none;<b/>", 1, 0}, {"&amp;&amp", 5, 0}, {"<a>&#0;</a>", 3, 1}, {"a & b", 2, 0}, {"\u00e9&;", 2, 0},
		{"a&<b;", 1, 0}, {"a&none;b\x01", 8, 0}, {"\x01&none;", 0, 0},
		{"<![CDATA[\x01]]>", 9, 0}, {"a<![CDATA[b\uffffc\x01]]>", 11, 1},
		{"<a b='\x01'>", 6, 0}, {"<a b='c&none;'>", 7, 0}, {"<a b=\"&\"/>", 6, 0}, {"<a b='c' d='e\ufffe'>", 13, 0}, {"<a b='&none;\x02'>", 12, 0}, {"<a b='&amp' c=';'>", 6, 0},

		// Comments and hints, at their beginning.
		{"<!--", 0, 0}, {"<!-->", 0, 0}, {"<!--->", 0, 0}, {"<!--a->", 0, 0}, {"<!--a--b-->", 0, 0}, {"<!--a--->", 0, 0}, {"<!----->", 0, 0},
		{"<!-- -- -->", 0, 0}, {"ab<!--c", 2, 1}, {"<a/><!--b--c--><d/>", 4, 1}, {"<!--a--><!--b--><!--c--d-->", 16, 0}, {"<!-- a -- >-->", 0, 0},
		{"<?", 0, 0}, {"<?>", 0, 0}, {"<?a>", 0, 0}, {"<?a? >", 0, 0}, {"a<?b", 1, 1}, {"<!--a--><?b?><?c", 13, 0},

		// A CDATA, behind its beginning.
		{"<![CDATA[", 9, 0}, {"<![CDATA[a]]", 9, 0}, {"<![CDATA[a]>", 9, 0}, {"<![CDATA[a]] >", 9, 0}, {"ab<![CDATA[c]]<", 11, 1}, {"<![CDATA[\x01", 9, 0},

		// Attributes' texts that do not end, or have a <, behind the first quote.
		{"<a b='", 6, 0}, {"<a b='c", 6, 0}, {"<a b='c\">", 6, 0}, {"<a b=\"c'>", 6, 0}, {"<a b='c<d'>", 6, 0}, {"<a b='<'>", 6, 0}, {"<a b = \"cd<\"/>", 8, 0},
		{"<a b='c' d='e>", 12, 0}, {"<a b='\x01<'>", 6, 0}, {"<a b='&<'>", 6, 0}, {"<a b='&none;", 6, 0}, {"<a b='\x01", 6, 0},

		// Attributes behind no blanks, and one that is too many, where it would begin.
		{"<a b='c'd='e'>", 8, 0}, {"<a b='c'\"d\">", 8, 0}, {"<a b='c'=''>", 8, 0}, {"<a b='c'", 8, 0}, {"<a b='c'/", 8, 0}, {"<a b='c'b='c'>", 8, 0},
		{seventeen, len(seventeen) - len("c='1'>"), 0}, {more, len(more) - len("?>"), 0},
	} {
		l, e, at := all(c.s)
		if e != api.ErrForm || at != c.at || len(l) != c.pieces {
			t.Errorf("%q: error %d at %d behind %d pieces, want %d behind %d", c.s, e, at, len(l), c.at, c.pieces)
		}
	}
}

func TestTwice(t *testing.T) {
	sixteen, _ := many(api.MaxAttrs-1, " b3='x'>")
	for _, c := range []struct {
		s  string
		e  api.Errno
		at int
	}{
		{"<a b='1' b='2'/>", api.ErrTwice, 9},
		{"<a b='1' b='1'>", api.ErrTwice, 9},
		{"<a b='1' c='2' d='3'  c = '4'>", api.ErrTwice, 22},
		{"<a p:b='' p:b=''>", api.ErrTwice, 10},
		{"<a xmlns='u' xmlns='v'>", api.ErrTwice, 13},
		{"<a b='' b='' c>", api.ErrTwice, 8},
		{"<a b='' b='' b='&'>", api.ErrTwice, 8},
		{"<a b='' b=''", api.ErrTwice, 8},
		{sixteen, api.ErrTwice, len(sixteen) - len("b3='x'>")},
		// What is no attribute is none of a name that is there.
		{"<a b='' b>", api.ErrForm, 9},
		{"<a b='' b='<'>", api.ErrForm, 11},
		{"<a b='' b='&none;'>", api.ErrForm, 11},
		// One too many is not looked at.
		{sixteen[:len(sixteen)-len(" b3='x'>")] + " c='' b3=''>", api.ErrForm, len(sixteen) - len(" b3='x'>") + len(" c='' ")},
	} {
		if l, e, at := all(c.s); e != c.e || at != c.at || len(l) != 0 {
			t.Errorf("%q: error %d at %d, want %d at %d", c.s, e, at, c.e, c.at)
		}
	}
}

func TestMuchAndNoText(t *testing.T) {
	full := strings.Repeat("a", api.MaxDoc)
	for _, c := range []struct {
		s  string
		e  api.Errno
		at int
	}{
		{full, api.OK, api.MaxDoc},
		{full + "a", api.ErrBig, api.MaxDoc},
		{full + full, api.ErrBig, api.MaxDoc},
		{full + "\xff", api.ErrBig, api.MaxDoc},
		{"\xff" + full, api.ErrBig, api.MaxDoc},
		{"<" + full, api.ErrBig, api.MaxDoc},
		{full[1:] + "\xff", api.ErrUtf, api.MaxDoc - 1},
		{"\xff", api.ErrUtf, 0},
		{"\x80", api.ErrUtf, 0},
		{"a\xc3", api.ErrUtf, 1},
		{"\u00e9\xed\xa0\x80", api.ErrUtf, 2},
		{"\ufffd\xc0\x80", api.ErrUtf, 3},
		{"<a/>\xe2\x82<b/>\xff", api.ErrUtf, 4},
		// It is told ahead of all that is wrong with pieces.
		{"<1a/>&\x01<!--\xf4\x90\x80\x80", api.ErrUtf, 11},
		{"<!--\xff-->", api.ErrUtf, 4},
	} {
		scanner := New(c.s)
		if c.e != api.OK && (scanner.Err() != c.e || scanner.At() != c.at) {
			t.Errorf("New(%.20q): error %d at %d, want %d at %d", c.s, scanner.Err(), scanner.At(), c.e, c.at)
		}
		if l, e, at := all(c.s); e != c.e || at != c.at || c.e != api.OK && len(l) != 0 {
			t.Errorf("%.20q: error %d at %d, want %d at %d", c.s, e, at, c.e, c.at)
		}
	}
}

func TestWhereItIs(t *testing.T) {
	c := New("<a/> b<!--c--><d>e</f><?g?>")
	for _, want := range []int{0, 4, 6, 17, 18, 22, 27, 27} {
		if c.At() != want || c.Err() != api.OK {
			t.Fatalf("at %d, error %d, want %d", c.At(), c.Err(), want)
		}
		p := c.Next()
		if want >= 22 && !reflect.DeepEqual(p, api.Piece{}) {
			t.Fatalf("behind the last one: %+v", p)
		}
	}
	c = New("<a/>b&<d/>")
	c.Next()
	for range 3 {
		if p := c.Next(); !reflect.DeepEqual(p, api.Piece{}) || c.Err() != api.ErrForm || c.At() != 5 {
			t.Fatalf("%+v, error %d at %d", p, c.Err(), c.At())
		}
	}
}

func TestWrong(t *testing.T) {
	for _, at := range []int{math.MinInt, -1, 0, 2, 8, 9, math.MaxInt} {
		c := New("<a/><b/>")
		c.Next()
		c.Wrong(api.OK, at)
		if c.Err() != api.OK || c.At() != 4 {
			t.Fatalf("OK at %d: error %d at %d", at, c.Err(), c.At())
		}
		c.Wrong(api.ErrDeep, at)
		c.Wrong(api.ErrForm, 1)
		c.Wrong(api.OK, 3)
		if p := c.Next(); !reflect.DeepEqual(p, api.Piece{}) || c.Err() != api.ErrDeep || c.At() != at {
			t.Fatalf("ErrDeep at %d: %+v, error %d at %d", at, p, c.Err(), c.At())
		}
	}
	c := New("\xff")
	c.Wrong(api.ErrBig, 7)
	if c.Err() != api.ErrUtf || c.At() != 0 {
		t.Errorf("behind ErrUtf: error %d at %d", c.Err(), c.At())
	}
	c = New("&")
	c.Next()
	c.Wrong(api.ErrBig, 7)
	if c.Err() != api.ErrForm || c.At() != 0 {
		t.Errorf("behind ErrForm: error %d at %d", c.Err(), c.At())
	}
	c = New("")
	c.Next()
	c.Wrong(api.Errno(-5), 7)
	if c.Err() != -5 || c.At() != 7 {
		t.Errorf("at the end: error %d at %d", c.Err(), c.At())
	}
}

func TestOfNone(t *testing.T) {
	var c *Scanner
	c.Wrong(api.ErrForm, 5)
	if p := c.Next(); !reflect.DeepEqual(p, api.Piece{}) || c.Err() != api.ErrInput || c.At() != 0 {
		t.Errorf("%+v, error %d at %d", p, c.Err(), c.At())
	}
}

// TestOwn holds that what was told is the caller's, and that two scanners of a text know nothing of one another.
func TestOwn(t *testing.T) {
	s := strings.Repeat("<a b='c' d='e'>", 2)
	c, other := New(s), New(s)
	p := c.Next()
	p.Attrs[0] = api.Attr{Name: "d", Value: "x"}
	_ = append(p.Attrs[:1], api.Attr{Name: "b"})
	c.Wrong(api.ErrInput, 1)
	for range 2 {
		if q := other.Next(); q.Name != "a" || !reflect.DeepEqual(q.Attrs, attrs("b", "c", "d", "e")) {
			t.Errorf("%+v", q)
		}
	}
}

// TestEachLetterInPieces puts each letter up to a bound where it is a name's, a text's, or something that must not stand there.
func TestEachLetterInPieces(t *testing.T) {
	for r := range 0x3000 {
		s := string(rune(r))
		for _, around := range [][2]string{
			{"", ""}, {"a", "b"}, {"<", "/>"}, {"<a", "/>"}, {"<a", "b='c'/>"}, {"<a ", "='c'/>"}, {"<a b", "='c'/>"}, {"<a b=", "'c'/>"},
			{"<a b='", "'/>"}, {"<a b='c'", "/>"}, {"<a b='c'", "d='e'/>"}, {"<a/", ">"}, {"</", ">"}, {"</a", ">"}, {"<![CDATA[", "]]>"},
			{"<!--", "-->"}, {"<?", "?>"}, {"<!", "-->"}, {"<!-", "-->"}, {"<![CDATA", "]]>"}, {"<!--a--", ">"}, {"<?a?", ">"}, {"<![CDATA[a]]", ">"},
		} {
			hold(t, around[0]+s+around[1])
		}
		if t.Failed() {
			return
		}
	}
}

// TestBeginnings holds what is told of each beginning of a document: it comes to its end, or is wrong at one of its bytes, or at its end.
func TestBeginnings(t *testing.T) {
	s := "<?xml?><!-- a -->\n<p:a xmlns:p=\"u\" b = 'c &amp; d'\t>e &#x20ac; \u00e9<![CDATA[<f>]]]></p:a ><g/><h i='' />"
	for end := range len(s) + 1 {
		hold(t, s[:end])
		if t.Failed() {
			return
		}
		if _, _, at := all(s[:end]); at < 0 || at > end {
			t.Errorf("%q: at %d", s[:end], at)
		}
	}
}

// TestShortDocuments goes over all documents of a few marks.
func TestShortDocuments(t *testing.T) {
	marks := []string{"<", ">", "/", "a", " ", "=", "'", "<!--", "-->", "<?", "?>", "&"}
	var try func(s string, left int)
	try = func(s string, left int) {
		hold(t, s)
		if left == 0 || t.Failed() {
			return
		}
		for _, m := range marks {
			try(s+m, left-1)
		}
	}
	try("", 5)
}

func TestDrawnDocuments(t *testing.T) {
	marks := []string{
		"<a", "<p:b", "</a", "</p:b", "<", "</", ">", "/>", ">", " ", "\t\n", " ", "=", "='", "=\"", "'", "\"", "'", " b='c'", " a=\"\"", " p:a = '&lt;'", " c='", " b",
		"<!--", "-->", "--", "-", "<!---->", "<?", "?>", "<?a?>", "<![CDATA[", "]]>", "]]", "<![CDATA[a]]>", "<!",
		"a", "1", ":", "b:c", "\u00e9", "&", ";", "&amp;", "&#65;", "&x;", "\x01", "\uffff", "\xff",
	}
	dice := rand.New(rand.NewSource(4))
	for range 400000 {
		s := ""
		for range dice.Intn(12) {
			s += marks[dice.Intn(len(marks))]
		}
		hold(t, s)
		if t.Failed() {
			return
		}
	}
}

// hold holds a document against the test's own ways.
func hold(t *testing.T, s string) {
	t.Helper()
	wantL, wantE, wantAt := told(s)
	l, e, at := all(s)
	if show(l) != show(wantL) || e != wantE || at != wantAt {
		t.Errorf("%q: error %d at %d\n%swant error %d at %d\n%s", s, e, at, show(l), wantE, wantAt, show(wantL))
	}
}

const formOfNames = `[a-zA-Z_\x{80}-\x{10ffff}][-.0-9a-zA-Z_\x{80}-\x{10ffff}]*`

var (
	comments = regexp.MustCompile(`^<!--(?:[^-]|-[^-])*-->`)
	hints    = regexp.MustCompile(`(?s)^<\?.*?\?>`)
	raws     = regexp.MustCompile(`(?s)^<!\[CDATA\[(.*?)\]\]>`)
	texts    = regexp.MustCompile(`^[^<]+`)
	blanked  = regexp.MustCompile(`^[ \t\r\n]*`)
	equals   = regexp.MustCompile(`^[ \t\r\n]*=[ \t\r\n]*`)
	values   = regexp.MustCompile(`^(?:'([^'<]*)'|"([^"<]*)")`)
	runs     = regexp.MustCompile(`^(?:[-.:0-9a-zA-Z_]|[^\x00-\x7f])*`)
	named    = regexp.MustCompile(`^(?:` + formOfNames + `:)?` + formOfNames + `$`)
	wrongs   = regexp.MustCompile(`[\x00-\x08\x0b\x0c\x0e-\x1f\x{fffe}\x{ffff}]`)
	entities = regexp.MustCompile(`&(?:amp|lt|gt|quot|apos|#65|#x20ac);|&`)
)

var known = strings.NewReplacer("&amp;", "&", "&lt;", "<", "&gt;", ">", "&quot;", `"`, "&apos;", "'", "&#65;", "A", "&#x20ac;", "\u20ac")

// fault is what is wrong, and where: the test's own ways throw it.
type fault struct {
	e  api.Errno
	at int
}

// told tells by forms what a document must come to (names are short here, and entities few).
func told(s string) (l []api.Piece, e api.Errno, at int) {
	defer func() {
		switch f := recover().(type) {
		case nil:
		case fault:
			e, at = f.e, f.at
		default:
			panic(f)
		}
	}()
	for i, r := range s {
		if r == 0xfffd && !strings.HasPrefix(s[i:], "\xef\xbf\xbd") {
			panic(fault{api.ErrUtf, i})
		}
	}
	for at < len(s) {
		n := 0
		rest := s[at:]
		switch {
		case strings.HasPrefix(rest, "<!--"):
			n = longOf(comments, rest, at)
		case strings.HasPrefix(rest, "<?"):
			n = longOf(hints, rest, at)
		case strings.HasPrefix(rest, "<![CDATA["):
			n = longOf(raws, rest, at+9)
			l = append(l, text(at, lettersOf(rest[9:n-3], at+9)))
		case strings.HasPrefix(rest, "</"):
			var p api.Piece
			p, n = closerOf(rest, at)
			l = append(l, p)
		case rest[0] == '<':
			var p api.Piece
			p, n = openerOf(rest, at)
			l = append(l, p)
		default:
			n = longOf(texts, rest, at)
			l = append(l, text(at, openedOf(rest[:n], at)))
		}
		at += n
	}
	return l, api.OK, at
}

func longOf(form *regexp.Regexp, s string, at int) int {
	found := form.FindString(s)
	if found == "" {
		panic(fault{api.ErrForm, at})
	}
	return len(found)
}

func lettersOf(s string, at int) string {
	if i := wrongs.FindStringIndex(s); i != nil {
		panic(fault{api.ErrForm, at + i[0]})
	}
	return s
}

func openedOf(s string, at int) string {
	lettersOf(s, at)
	for _, i := range entities.FindAllStringIndex(s, -1) {
		if i[1]-i[0] == 1 {
			panic(fault{api.ErrForm, at + i[0]})
		}
	}
	return known.Replace(s)
}

func nameOf(s string, at int) string {
	name := runs.FindString(s)
	if !named.MatchString(name) {
		panic(fault{api.ErrForm, at})
	}
	return name
}

func closerOf(s string, at int) (api.Piece, int) {
	p := shut(at, nameOf(s[2:], at+2))
	n := 2 + len(p.Name)
	n += len(blanked.FindString(s[n:]))
	if !strings.HasPrefix(s[n:], ">") {
		panic(fault{api.ErrForm, at + n})
	}
	return p, n + 1
}

func openerOf(s string, at int) (api.Piece, int) {
	p := api.Piece{Kind: api.PieceOpen, Name: nameOf(s[1:], at+1), At: at}
	n := 1 + len(p.Name)
	seen := map[string]bool{}
	for {
		blanks := len(blanked.FindString(s[n:]))
		n += blanks
		if strings.HasPrefix(s[n:], ">") {
			return p, n + 1
		}
		if strings.HasPrefix(s[n:], "/>") {
			p.Kind = api.PieceEmpty
			return p, n + 2
		}
		if blanks == 0 || len(seen) == 16 {
			panic(fault{api.ErrForm, at + n})
		}
		a, long := attrOf(s[n:], at+n)
		if seen[a.Name] {
			panic(fault{api.ErrTwice, at + n})
		}
		seen[a.Name] = true
		p.Attrs = append(p.Attrs, a)
		n += long
	}
}

func attrOf(s string, at int) (api.Attr, int) {
	name := nameOf(s, at)
	n := len(name)
	equal := equals.FindString(s[n:])
	if equal == "" {
		panic(fault{api.ErrForm, at + n + len(blanked.FindString(s[n:]))})
	}
	n += len(equal)
	if n == len(s) || s[n] != '\'' && s[n] != '"' {
		panic(fault{api.ErrForm, at + n})
	}
	value := values.FindString(s[n:])
	if value == "" {
		panic(fault{api.ErrForm, at + n + 1})
	}
	return api.Attr{Name: name, Value: openedOf(value[1:len(value)-1], at+n+1)}, n + len(value)
}
