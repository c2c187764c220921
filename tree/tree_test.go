package tree

import (
	"fmt"
	"math/rand"
	"reflect"
	"slices"
	"strings"
	"testing"

	"galliard/api"
)

// attrs is a list of attributes: a name, its value, and so on.
func attrs(l ...string) []api.Attr {
	var out []api.Attr
	for i := 0; i < len(l); i += 2 {
		out = append(out, api.Attr{Name: l[i], Value: l[i+1]})
	}
	return out
}

// with is an element of others; leaf, one of a text.
func with(name string, kids ...api.Node) api.Node {
	return api.Node{Name: name, Kids: kids}
}

func leaf(name, text string) api.Node {
	return api.Node{Name: name, Text: text}
}

// of is an element with where its name is from, and its attributes.
func of(x api.Node, from string, l ...string) api.Node {
	x.Space, x.Attrs = from, attrs(l...)
	return x
}

// show writes an element, and what is in it, for the one who reads of a fault.
func show(x api.Node) string {
	var b strings.Builder
	fmt.Fprintf(&b, "{%s}%s%q", x.Space, x.Name, x.Attrs)
	if x.Text != "" {
		fmt.Fprintf(&b, "%q", x.Text)
	}
	for _, k := range x.Kids {
		b.WriteString("(" + show(k) + ")")
	}
	return b.String()
}

// bare is an element whose empty lists are nil, by the test's own way, to hold it against others.
func bare(x api.Node) api.Node {
	out := api.Node{Space: x.Space, Name: x.Name, Text: x.Text}
	out.Attrs = append(out.Attrs, x.Attrs...)
	for _, k := range x.Kids {
		out.Kids = append(out.Kids, bare(k))
	}
	return out
}

func same(a, b api.Node) bool {
	return reflect.DeepEqual(bare(a), bare(b))
}

// takes holds what a document's element is.
func takes(t *testing.T, s string, want api.Node) {
	t.Helper()
	if x, at, e := Parse(s); e != api.OK || at != 0 || !same(x, want) {
		t.Errorf("Parse(%q): %s, at %d, error %d, want %s", s, show(x), at, e, show(want))
	}
}

// refuses holds what is wrong with a document, and where.
func refuses(t *testing.T, s string, wantAt int, wantE api.Errno) {
	t.Helper()
	if x, at, e := Parse(s); e != wantE || at != wantAt || !reflect.DeepEqual(x, api.Node{}) {
		t.Errorf("Parse(%q): %s, at %d, error %d, want at %d, error %d", s, show(x), at, e, wantAt, wantE)
	}
}

func TestElements(t *testing.T) {
	for s, want := range map[string]api.Node{
		"<a/>":                                with("a"),
		"<a></a>":                             with("a"),
		"<a ></a\n>":                          with("a"),
		" \t\r\n<a/>\n ":                      with("a"),
		"<!-- x --><?y?> <a/><?z?> <!--w--> ": with("a"),
		"<a><b/></a>":                         with("a", with("b")),
		"<a><b/><c></c><b/></a>":              with("a", with("b"), with("c"), with("b")),
		"<a><a><a><a/></a></a></a>":           with("a", with("a", with("a", with("a")))),
		"<a><b><c/><d/></b><e/><f><g/></f></a>": with("a",
			with("b", with("c"), with("d")), with("e"), with("f", with("g"))),
		// Blanks may stand beside elements, however they are written.
		"<a> <b/>\t<c> \n</c>\r</a>":         with("a", with("b"), with("c")),
		"<a>&#32;<b/>&#9;<![CDATA[ ]]></a>":  with("a", with("b")),
		"&#32;<a/>&#xa;<![CDATA[ ]]>":        with("a"),
		"<![CDATA[]]><a/><![CDATA[]]>":       with("a"),
		"<a><!-- x --><b/><?y?><c/></a>":     with("a", with("b"), with("c")),
		"<a>\n <b>\n  <c>x</c>\n </b>\n</a>": with("a", with("b", leaf("c", "x"))),
	} {
		takes(t, s, want)
	}
}

func TestTexts(t *testing.T) {
	for within, want := range map[string]string{
		"":                                "",
		" \t\r\n":                         "",
		"b":                               "b",
		" b ":                             "b",
		"\n\t b  c\n d\r ":                "b  c\n d",
		"&lt;b/&gt;":                      "<b/>",
		"<![CDATA[<b/>]]>":                "<b/>",
		"<![CDATA[ b ]]>":                 "b",
		"&#32;b&#10;":                     "b",
		"\u00a0b\u2003":                   "\u00a0b\u2003",
		"b<!-- c -->d":                    "bd",
		" b <!-- c --> d ":                "b  d",
		"<!-- c -->b<?d?>":                "b",
		"b<![CDATA[]]>":                   "b",
		" <![CDATA[ ]]> <!----> &#x20;":   "",
		"b <![CDATA[ c ]]>&amp; d<?e?> f": "b  c & d f",
		"\u00e9\U00010000":                "\u00e9\U00010000",
		"/>":                              "/>",
	} {
		takes(t, "<a>"+within+"</a>", leaf("a", want))
		takes(t, "<z> <a>"+within+"</a> <y/></z>", with("z", leaf("a", want), with("y")))
	}
}

func TestSpaces(t *testing.T) {
	for s, want := range map[string]api.Node{
		"<a xmlns='u'/>":                            of(with("a"), "u"),
		"<p:a xmlns:p='u'/>":                        of(with("a"), "u"),
		"<p:a xmlns:p='u'></p:a>":                   of(with("a"), "u"),
		"<xml:a/>":                                  of(with("a"), api.XmlSpace),
		"<a xmlns:p='u'/>":                          with("a"),
		"<a xmlns='u' xmlns:p='v'><b/><p:c/></a>":   of(with("a", of(with("b"), "u"), of(with("c"), "v")), "u"),
		"<a xmlns='u'><b xmlns=''><c/></b><d/></a>": of(with("a", with("b", with("c")), of(with("d"), "u")), "u"),
		// What an element tells of counts no more behind it, whether it is empty or not.
		"<a><b xmlns='u'/><c xmlns='v'></c><d/></a>": with("a", of(with("b"), "u"), of(with("c"), "v"), with("d")),
		"<p:a xmlns:p='u'><p:a xmlns:p='v'><p:b/></p:a><p:b/></p:a>": of(with("a",
			of(with("a", of(with("b"), "v")), "v"), of(with("b"), "u")), "u"),
		"<p:a xmlns:p='u'><a xmlns='u'/><q:a xmlns:q='u'></q:a></p:a>": of(with("a", of(with("a"), "u"), of(with("a"), "u")), "u"),
	} {
		takes(t, s, want)
	}
}

func TestAttributes(t *testing.T) {
	for s, want := range map[string]api.Node{
		"<a b='c'/>":                      of(with("a"), "", "b", "c"),
		"<a b='c' d=\"e\"></a>":           of(with("a"), "", "b", "c", "d", "e"),
		"<a z='1' y='' x='&lt;'>t</a>":    of(leaf("a", "t"), "", "z", "1", "y", "", "x", "<"),
		"<a b=' c '/>":                    of(with("a"), "", "b", " c "),
		"<a b='1' xmlns='u' c='2'/>":      of(with("a"), "u", "b", "1", "c", "2"),
		"<p:a xmlns:p='u' p='1' xml=''/>": of(with("a"), "u", "p", "1", "xml", ""),
		"<a b='1'><a b='2'/><c/></a>":     of(with("a", of(with("a"), "", "b", "2"), with("c")), "", "b", "1"),
	} {
		takes(t, s, want)
	}
}

func TestScannersErrors(t *testing.T) {
	for _, c := range []struct {
		s  string
		at int
		e  api.Errno
	}{
		{"\xff", 0, api.ErrUtf},
		{"<a>\xc3</a>", 3, api.ErrUtf},
		{"<a/>\xff", 4, api.ErrUtf},
		// All of it has to be a text, ahead of all else.
		{"x</b>\xff", 5, api.ErrUtf},
		{"<a/>" + strings.Repeat(" ", api.MaxDoc-3), api.MaxDoc, api.ErrBig},
		{"\xff" + strings.Repeat(" ", api.MaxDoc), api.MaxDoc, api.ErrBig},
		{"<", 1, api.ErrForm},
		{"<1/>", 1, api.ErrForm},
		{"<a", 2, api.ErrForm},
		{"<a b/>", 4, api.ErrForm},
		{"<a b='1' b='2'/>", 9, api.ErrTwice},
		{"<a xmlns:p='u' xmlns:p='u'/>", 15, api.ErrTwice},
		{"<a>&b;</a>", 3, api.ErrForm},
		{"<a>t&</a>", 4, api.ErrForm},
		{"<a><b/>t<!--</a>", 8, api.ErrForm},
		{"<a>\x00</a>", 3, api.ErrForm},
		{"<a/>&", 4, api.ErrForm},
		{"<a/>x&", 5, api.ErrForm},
		{"<a/><!-- -- -->", 4, api.ErrForm},
		{"<a/><?", 4, api.ErrForm},
		{"<a><![CDATA[</a>", 12, api.ErrForm},
		{"<!--", 0, api.ErrForm},
		{"&<a/>", 0, api.ErrForm},
		{"<a></a", 6, api.ErrForm},
		{"<a></1>", 5, api.ErrForm},
		{"<a>" + manyAttrs(api.MaxAttrs+1) + "</a>", len("<a>"+manyAttrs(api.MaxAttrs)) - 1, api.ErrForm},
		// Where a piece is wrong, its name and its space are not looked at.
		{"<p:a &/>", 5, api.ErrForm},
		{"<a></b &>", 7, api.ErrForm},
	} {
		refuses(t, c.s, c.at, c.e)
	}
	takes(t, "<a/>"+strings.Repeat(" ", api.MaxDoc-4), with("a"))
	if x, at, e := Parse(manyAttrs(api.MaxAttrs)); e != api.OK || at != 0 || len(x.Attrs) != api.MaxAttrs {
		t.Errorf("%s, at %d, error %d", show(x), at, e)
	}
}

// manyAttrs is an element with so many attributes.
func manyAttrs(n int) string {
	s := "<a"
	for i := range n {
		s += fmt.Sprintf(" a%d=''", i)
	}
	return s + "/>"
}

// nest is elements within one another, so many, around something.
func nest(n int, s string) string {
	return strings.Repeat("<a>", n) + s + strings.Repeat("</a>", n)
}

func TestDeep(t *testing.T) {
	for _, s := range []string{nest(api.MaxDepth, ""), nest(api.MaxDepth, "t"), nest(api.MaxDepth-1, "<b/>"), nest(api.MaxDepth-1, "<b/><b></b>")} {
		if x, at, e := Parse(s); e != api.OK || at != 0 || Depth(x) != api.MaxDepth {
			t.Errorf("Parse(%q): depth %d, at %d, error %d", s, Depth(x), at, e)
		}
	}
	deep := 3 * api.MaxDepth
	refuses(t, nest(api.MaxDepth, "<b/>"), deep, api.ErrDeep)
	refuses(t, nest(api.MaxDepth, "<b>"), deep, api.ErrDeep)
	refuses(t, nest(api.MaxDepth, " <b></b>"), deep+1, api.ErrDeep)
	refuses(t, nest(api.MaxDepth+5, ""), deep, api.ErrDeep)
	refuses(t, nest(api.MaxDepth-1, "<b/><b>t</b><a> <c/></a>"), deep-3+16, api.ErrDeep)
	// Ahead of what is wrong with the element's own; behind what is wrong with its piece.
	for _, b := range []string{"<p:b/>", "<b xmlns:xml=''/>", "<b xml:c=''/>", "<b></c>"} {
		refuses(t, nest(api.MaxDepth, b), deep, api.ErrDeep)
	}
	refuses(t, nest(api.MaxDepth, "<b c=''c=''/>"), deep+7, api.ErrForm)
	refuses(t, nest(api.MaxDepth, "<b c='' c=''/>"), deep+8, api.ErrTwice)
}

func TestBig(t *testing.T) {
	most := strings.Repeat("<b/>", api.MaxNodes-1)
	for _, s := range []string{"<a>" + most + "</a>", "<a>" + most[4:] + "<b></b></a>", "<a><c>" + most[8:] + "</c><b/></a>"} {
		if x, at, e := Parse(s); e != api.OK || at != 0 || Count(x) != api.MaxNodes {
			t.Errorf("%d elements, at %d, error %d", Count(x), at, e)
		}
	}
	last := 3 + len(most)
	refuses(t, "<a>"+most+"<b/></a>", last, api.ErrBig)
	refuses(t, "<a>"+most+" <b></b></a>", last+1, api.ErrBig)
	refuses(t, "<a>"+most+"<b/>", last, api.ErrBig)
	// Ahead of what is wrong with the element's own; behind what is wrong with its piece, or ahead of it.
	for _, b := range []string{"<p:b/>", "<b xmlns:xml=''/>", "<b xml:c=''/>", "<b></c>"} {
		refuses(t, "<a>"+most+b+"</a>", last, api.ErrBig)
	}
	refuses(t, "<a>"+most+"<b", last+2, api.ErrForm)
	refuses(t, "<a>"+most+"&<b/></a>", last, api.ErrForm)
	refuses(t, "<a>"+most+"</c><b/></a>", last, api.ErrForm)
	// What stands behind the one element is another piece, and no element of it.
	refuses(t, "<a>"+most+"</a><b/>", last+4, api.ErrForm)
}

// TestBigAndDeep has one element more than there may be, within as many as there may be.
func TestBigAndDeep(t *testing.T) {
	most := strings.Repeat("<b/>", api.MaxNodes-api.MaxDepth)
	s := "<a>" + most + strings.Repeat("<a>", api.MaxDepth-1)
	refuses(t, s+"<b/>", len(s), api.ErrBig)
	refuses(t, s[:len(s)-3]+"<p:b/>", len(s)-3, api.ErrForm)
	refuses(t, s[:3]+s[7:]+"<b/>", len(s)-4, api.ErrDeep)
}

func TestSpacesErrors(t *testing.T) {
	for _, b := range []string{
		"<b xmlns:xml='u'/>",
		"<b xmlns:xmlns='u'/>",
		"<b xmlns:p=''/>",
		// Its name: the prefix is not known.
		"<p:b/>",
		"<p:b></p:b>",
		"<xmlns:b/>",
		"<p:b xmlns:q='u'/>",
		"<P:b xmlns:p='u'/>",
		// An attribute's name has a prefix, known or not.
		"<b p:c=''/>",
		"<b c='1' p:d='' xmlns:p='u'/>",
		"<b xml:lang='en'/>",
		"<b xml:c='' d=''></b>",
		"<p:b xmlns:p='u' p:c=''/>",
	} {
		refuses(t, b, 0, api.ErrForm)
		refuses(t, " <!-- x --> "+b+"</c>", 12, api.ErrForm)
		refuses(t, "<a>t<c/>"+b+"</a>", 8, api.ErrForm)
		refuses(t, "<a><c xmlns:p='u'/> "+strings.ReplaceAll(b, "p:", "r:")+"&</a>", 20, api.ErrForm)
	}
	// Within an element of that prefix it is known; behind it is not.
	refuses(t, "<a><p:b xmlns:p='u'><p:c/></p:b><p:d/></a>", 32, api.ErrForm)
	refuses(t, "<a><p:b xmlns:p='u'/><p:d/></a>", 21, api.ErrForm)
}

// telling is an element's attributes that tell of so many prefixes, from a number on.
func telling(from, n int) string {
	s := ""
	for i := range n {
		s += fmt.Sprintf(" xmlns:p%d='u'", from+i)
	}
	return s
}

func TestTooManySpaces(t *testing.T) {
	s := "<a>"
	// xml and no prefix are known ahead.
	for from := 2; from < api.MaxSpaces; from += 14 {
		s += "<a" + telling(from, 14) + ">"
	}
	takes(t, s+strings.Repeat("</a>", 8), nested("a", 8))
	takes(t, s+"<b/><p2:c/>"+strings.Repeat("</a>", 8), nested("a", 7, with("a", with("b"), of(with("c"), "u"))))
	for _, b := range []string{"<b xmlns:p='u'/>", "<b xmlns=''>", "<p:b xmlns:q='u' p:c=''/>"} {
		refuses(t, s+b+strings.Repeat("</a>", 8), len(s), api.ErrBig)
	}
	refuses(t, s+"<b xmlns:p=''/>", len(s), api.ErrForm)
	if x, _, e := Parse(s + "</a><b" + telling(0, 14) + "/>" + strings.Repeat("</a>", 7)); e != api.OK || Count(x) != 9 {
		t.Errorf("behind: %s, error %d", show(x), e)
	}
}

// nested is elements of one name within one another, so many, the last of which has elements.
func nested(name string, n int, kids ...api.Node) api.Node {
	x := with(name, kids...)
	for range n - 1 {
		x = with(name, x)
	}
	return x
}

func TestForm(t *testing.T) {
	for _, c := range []struct {
		s  string
		at int
	}{
		// A name that closes another one.
		{"<a></b>", 3},
		{"<a> t </b>", 6},
		{"<a><b></a></b>", 6},
		{"<a><b/></b></a>", 7},
		{"<a></A>", 3},
		{"<a></a.>", 3},
		{"<p:a xmlns:p='u'></a>", 17},
		{"<p:a xmlns:p='u' xmlns:q='u'></q:a>", 29},
		{"<a xmlns='u' xmlns:p='u'></p:a>", 25},
		{"<p:a xmlns:p='u'></q:a>", 17},
		// Ahead of a text beside elements.
		{"<a>t<b/></c>", 8},
		{"<a>t<b></a></b></a>", 7},
		// A text beside elements.
		{"<a>t<b/></a>", 0},
		{"<a><b/>t</a>", 0},
		{"<a> <b/> t <c/> </a>", 0},
		{"<a>t<b></b></a>", 0},
		{" <z> <a><b/>&#x74;</a></z>", 5},
		{"<z>\n<a><b/><![CDATA[t]]></a></z>", 4},
		{"<a><b/>\u00a0</a>", 0},
		{"<z><a><b/>t</a>u</z>", 3},
		{"<z>u<a><b/></a></z>", 0},
		{"<a>t<b/></a>x", 0},
		// Another piece around it.
		{"x<a/>", 0},
		{"  x<a/>", 0},
		{" <!-- --> x<a/>", 9},
		{"x", 0},
		{" <?y?>x</b>", 6},
		{"</a>", 0},
		{" </a><a/>", 1},
		{"<![CDATA[x]]><a/>", 0},
		{"&#x41;<a/>", 0},
		{"<a/>x", 4},
		{"<a/> x", 4},
		{"<a/> <!-- --> x ", 13},
		{"<a></a><![CDATA[x]]>", 7},
		{"<a/><b/>", 4},
		{"<a/> <a></a>", 5},
		{"<a/></a>", 4},
		{"<a></a> </a>", 8},
		{"<a/><p:b/>", 4},
		{"<a/>x<b", 4},
		// The end.
		{"", 0},
		{" ", 0},
		{" \n\t\r ", 0},
		{"<!-- x -->", 0},
		{" <?x?> <![CDATA[ ]]>", 0},
		{"<a>", 3},
		{"<a> ", 4},
		{" <a>t", 5},
		{"<a><b/>", 7},
		{"<a><b>", 6},
		{"<a><b></b>", 10},
		{"<a><!-- x -->", 13},
		{"<a><?x?> <![CDATA[y]]>", 22},
		// That ahead of which the end comes has no text beside elements yet.
		{"<a>t<b/>", 8},
	} {
		refuses(t, c.s, c.at, api.ErrForm)
	}
}

// TestAllDocuments takes each document of few of these pieces, and holds it against the test's own way.
func TestAllDocuments(t *testing.T) {
	pieces := []string{"<a>", "</a>", "<b>", "</b>", "<a/>", " ", "t"}
	good := 0
	var all func(l []string, left int)
	all = func(l []string, left int) {
		want, at, right := folded(l)
		s := strings.Join(l, "")
		if right {
			good++
			takes(t, s, want)
		} else {
			refuses(t, s, at, api.ErrForm)
		}
		if left == 0 || t.Failed() {
			return
		}
		for _, p := range pieces {
			// Two texts are one piece, that the test's own way does not put together.
			if len(l) > 0 && !strings.Contains(p+l[len(l)-1], "<") {
				continue
			}
			all(append(slices.Clone(l), p), left-1)
		}
	}
	all(nil, 6)
	if good < 100 {
		t.Errorf("only %d documents were right", good)
	}
}

// folded is what pieces come to: an element, or where they are wrong. An element that is not closed yet lies on the ones around it.
func folded(l []string) (api.Node, int, bool) {
	type begun struct {
		x    api.Node
		at   int
		text bool
	}
	stack := []begun{{}}
	at := 0
	for _, p := range l {
		top := &stack[len(stack)-1]
		outmost := len(stack) == 1
		switch {
		case outmost && (p == "t" || p[1:] == "/a>" && p[0] == '<' || p == "</b>"):
			return api.Node{}, at, false
		case outmost && p != " " && len(top.x.Kids) == 1:
			return api.Node{}, at, false
		case p == "<a/>":
			top.x.Kids = append(top.x.Kids, with("a"))
		case p == "t":
			top.text = true
		case p == " ":
		case p[1] == '/':
			if p[2:3] != top.x.Name {
				return api.Node{}, at, false
			}
			if top.text && len(top.x.Kids) > 0 {
				return api.Node{}, top.at, false
			}
			if top.text {
				top.x.Text = "t"
			}
			whole := top.x
			stack = stack[:len(stack)-1]
			stack[len(stack)-1].x.Kids = append(stack[len(stack)-1].x.Kids, whole)
		default:
			stack = append(stack, begun{x: with(p[1:2]), at: at})
		}
		at += len(p)
	}
	switch {
	case len(stack) > 1:
		return api.Node{}, at, false
	case len(stack[0].x.Kids) == 0:
		return api.Node{}, 0, false
	}
	return stack[0].x.Kids[0], 0, true
}

// writer writes a drawn element as a document, in one of many ways.
type writer struct {
	dice *rand.Rand
	b    strings.Builder
}

func (w *writer) one(l ...string) string {
	return l[w.dice.Intn(len(l))]
}

// silent writes what says nothing beside elements.
func (w *writer) silent() {
	w.b.WriteString(w.one("", "", " ", "\n\t", "<!-- <x> & -->", " <?x <y> & ?>\r", "&#32;", "<![CDATA[]]>"))
}

// text writes a text, letter by letter.
func (w *writer) text(s string) {
	w.silent()
	for _, r := range s {
		switch {
		case w.dice.Intn(4) == 0:
			fmt.Fprintf(&w.b, "&#x%x;", r)
		case w.dice.Intn(4) == 0:
			fmt.Fprintf(&w.b, "<![CDATA[%c]]>", r)
		case r == '<':
			w.b.WriteString("&lt;")
		case r == '&':
			w.b.WriteString("&amp;")
		default:
			w.b.WriteRune(r)
		}
		w.b.WriteString(w.one("", "", "", "<!-- -->", "<?x?>"))
	}
	w.silent()
}

// element writes an element, where a prefix (or none) stands for a space around it.
func (w *writer) element(x api.Node, prefix, around string, depth int) {
	var l []string
	for _, a := range x.Attrs {
		quote := w.one("'", `"`)
		value := strings.NewReplacer("&", "&amp;", "<", "&lt;", quote, fmt.Sprintf("&#%d;", quote[0])).Replace(a.Value)
		l = append(l, a.Name+w.one("=", " = ")+quote+value+quote)
	}
	if x.Space != around || w.dice.Intn(5) == 0 {
		around = x.Space
		prefix = ""
		if x.Space != "" {
			prefix = w.one("", fmt.Sprint("p", depth), "p")
		}
		tells := strings.TrimSuffix("xmlns:"+prefix, ":") + "='" + x.Space + "'"
		l = slices.Insert(l, w.dice.Intn(len(l)+1), tells)
	} else if prefix == "" && x.Space == "" && w.dice.Intn(10) == 0 {
		l = append(l, "xmlns='' xmlns:other='o'")
	}
	name := strings.TrimPrefix(prefix+":"+x.Name, ":")
	head := strings.Join(append([]string{"<" + name}, l...), w.one(" ", "\n  ", "\t"))
	if len(x.Kids) == 0 && x.Text == "" && w.dice.Intn(2) == 0 {
		w.b.WriteString(head + w.one("/>", " />"))
		return
	}
	w.b.WriteString(head + w.one(">", " >"))
	w.text(x.Text)
	for _, k := range x.Kids {
		w.element(k, prefix, around, depth+1)
		w.silent()
	}
	w.b.WriteString("</" + name + w.one(">", " >"))
}

// draw draws an element that is so deep at most.
func draw(dice *rand.Rand, deep int) api.Node {
	names := []string{"a", "b", "c", "\u00e9", "x.1", "_-"}
	texts := []string{"", "t", "a<b&c>", "\"q'", "t  u", "]]>", "\u00e9\U00010000", "<a/>"}
	x := api.Node{Space: []string{"", "u", "v", api.BpmnSpace}[dice.Intn(4)], Name: names[dice.Intn(len(names))]}
	for _, i := range dice.Perm(len(names))[:dice.Intn(4)] {
		x.Attrs = append(x.Attrs, api.Attr{Name: names[i], Value: texts[dice.Intn(len(texts))]})
	}
	if deep > 1 && dice.Intn(4) > 0 {
		for range dice.Intn(4) {
			x.Kids = append(x.Kids, draw(dice, deep-1))
		}
	}
	if len(x.Kids) == 0 {
		x.Text = texts[dice.Intn(len(texts))]
	}
	return x
}

// TestDrawnElements writes drawn elements in many ways: each time it is that element that is taken; and of no beginning of a document, but all of it.
func TestDrawnElements(t *testing.T) {
	dice := rand.New(rand.NewSource(6))
	for range 3000 {
		x := draw(dice, 5)
		w := writer{dice: dice}
		w.silent()
		w.element(x, "", "", 1)
		s := w.b.String()
		takes(t, s, x)
		w.silent()
		takes(t, w.b.String(), x)
		cut := dice.Intn(len(s))
		if y, _, e := Parse(s[:cut]); e == api.OK || !reflect.DeepEqual(y, api.Node{}) {
			t.Errorf("Parse(%q): %s, error %d", s[:cut], show(y), e)
		}
		holdSame(t, dice, x)
		if got, want := Count(x), counted(x); got != want {
			t.Errorf("Count(%s): %d, want %d", show(x), got, want)
		}
		if got, want := Depth(x), depth(x); got != want {
			t.Errorf("Depth(%s): %d, want %d", show(x), got, want)
		}
		if t.Failed() {
			return
		}
	}
}

// counted and depth are how many elements there are, and within one another, by the test's own way.
func counted(x api.Node) int {
	n := 1
	for _, k := range x.Kids {
		n += counted(k)
	}
	return n
}

func depth(x api.Node) int {
	most := 0
	for _, k := range x.Kids {
		most = max(most, depth(k))
	}
	return most + 1
}

// holdSame holds an element against itself, and against one that is another somewhere.
func holdSame(t *testing.T, dice *rand.Rand, x api.Node) {
	t.Helper()
	y := bare(x)
	if !Same(x, y) || !Same(y, x) {
		t.Errorf("Same(%s), with itself: false", show(x))
	}
	changed := &y
	for len(changed.Kids) > 0 && dice.Intn(4) > 0 {
		changed = &changed.Kids[dice.Intn(len(changed.Kids))]
	}
	switch dice.Intn(6) {
	case 0:
		changed.Name += "x"
	case 1:
		changed.Space += "x"
	case 2:
		changed.Text += "x"
	case 3:
		changed.Attrs = append(changed.Attrs, api.Attr{})
	case 4:
		changed.Kids = append(changed.Kids, api.Node{})
	case 5:
		changed.Kids = append([]api.Node{{}}, changed.Kids...)
	}
	if Same(x, y) || Same(y, x) {
		t.Errorf("Same(%s, %s): true", show(x), show(y))
	}
}

func TestSame(t *testing.T) {
	l := []api.Node{
		{},
		with("a"),
		with("b"),
		leaf("a", "t"),
		leaf("a", " t"),
		of(with("a"), "u"),
		of(with("a"), "", "b", "1"),
		of(with("a"), "", "b", "2"),
		of(with("a"), "", "c", "1"),
		of(with("a"), "", "b", "1", "b", "1"),
		of(with("a"), "", "b", "1", "c", "2"),
		of(with("a"), "", "c", "2", "b", "1"),
		with("a", api.Node{}),
		with("a", with("b")),
		with("a", with("b"), with("b")),
		with("a", with("b"), with("c")),
		with("a", with("c"), with("b")),
		with("a", with("b", with("c"))),
		with("a", with("b", with("c")), with("b")),
		with("a", with("b"), with("b", with("c"))),
		with("a", with("b", leaf("c", "t"))),
		with("a", with("b", of(with("c"), "u"))),
		with("a", with("b", of(with("c"), "", "d", ""))),
		// What no document may be.
		{Name: "a", Text: "t", Kids: []api.Node{with("b")}},
		{Name: "\xff"},
	}
	for i, x := range l {
		for j, y := range l {
			for _, z := range []api.Node{y, bare(y), filled(y)} {
				if Same(x, z) != (i == j) || Same(z, x) != (i == j) {
					t.Errorf("Same(%s, %s): %v", show(x), show(z), i != j)
				}
			}
		}
	}
}

// filled is an element whose empty lists are not nil: that is the same.
func filled(x api.Node) api.Node {
	out := api.Node{Space: x.Space, Name: x.Name, Text: x.Text, Attrs: []api.Attr{}, Kids: []api.Node{}}
	out.Attrs = append(out.Attrs, x.Attrs...)
	for _, k := range x.Kids {
		out.Kids = append(out.Kids, filled(k))
	}
	return out
}

func TestCountAndDepth(t *testing.T) {
	for _, c := range []struct {
		x            api.Node
		count, depth int
	}{
		{api.Node{}, 1, 1},
		{leaf("a", "t"), 1, 1},
		{with("a", with("b")), 2, 2},
		{with("a", with("b"), with("c"), with("d")), 4, 2},
		{with("a", with("b"), with("c", with("d"), with("e", with("f"))), with("g")), 7, 4},
		{with("a", with("b", with("c", with("d"))), with("e")), 5, 4},
		{nested("a", 40), 40, 40},
		{with("a", make([]api.Node, 3000)...), 3001, 2},
	} {
		if Count(c.x) != c.count || Depth(c.x) != c.depth {
			t.Errorf("%s: %d elements, depth %d", show(c.x), Count(c.x), Depth(c.x))
		}
	}
}

// TestDeeperThanDocuments has elements far deeper than a document's may be.
func TestDeeperThanDocuments(t *testing.T) {
	const deep = 3000000
	x, y := nested("a", deep), nested("a", deep-1, leaf("a", "t"))
	if Count(x) != deep || Depth(x) != deep {
		t.Errorf("%d elements, depth %d", Count(x), Depth(x))
	}
	if !Same(x, x) {
		t.Error("it is not the same as itself")
	}
	if Same(x, y) {
		t.Error("it is the same as another one")
	}
}

func TestGet(t *testing.T) {
	x := of(with("a", of(with("b"), "", "k", "1")), "u", "c", "2", "d", "", "c", "3", "", "4", "p:e", "5")
	for name, want := range map[string]string{"c": "2", "d": "", "": "4", "p:e": "5"} {
		if value, ok := Get(x, name); value != want || !ok {
			t.Errorf("Get(%q): %q, %v", name, value, ok)
		}
	}
	for _, name := range []string{"k", "C", "cd", " c", "e", "a", "u", "xmlns", "2"} {
		if value, ok := Get(x, name); value != "" || ok {
			t.Errorf("Get(%q): %q, %v", name, value, ok)
		}
	}
	if value, ok := Get(api.Node{}, ""); value != "" || ok {
		t.Errorf("of none: %q, %v", value, ok)
	}
	taken, _, _ := Parse("<p:a xmlns:p='u' b='&lt;1'/>")
	if value, ok := Get(taken, "b"); value != "<1" || !ok {
		t.Errorf("of a document: %q, %v", value, ok)
	}
	if value, ok := Get(taken, "xmlns:p"); value != "" || ok {
		t.Errorf("a prefix: %q, %v", value, ok)
	}
}

// TestOwn holds that what is told is the caller's own, and that what is handed in is not changed.
func TestOwn(t *testing.T) {
	const s = "<a b='1'><c d='2'/><e>t</e></a>"
	x, _, _ := Parse(s)
	y, _, _ := Parse(s)
	x.Attrs[0].Value, x.Kids[0].Attrs[0].Value, x.Kids[1].Text = "x", "x", "x"
	takes(t, s, y)
	before := bare(y)
	Same(y, x)
	Same(x, y)
	Count(y)
	Depth(y)
	Get(y, "b")
	if !reflect.DeepEqual(bare(y), before) {
		t.Errorf("changed: %s", show(y))
	}
}

// TestManyPieces has a text of as many pieces as there may be.
func TestManyPieces(t *testing.T) {
	n := (api.MaxDoc - len("<a></a>")) / len("x<?>?>")
	x, at, e := Parse("<a>" + strings.Repeat("x<?>?>", n) + "</a>")
	if e != api.OK || at != 0 || x.Text != strings.Repeat("x", n) {
		t.Errorf("%d letters, at %d, error %d", len(x.Text), at, e)
	}
}
