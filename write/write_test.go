package write

import (
	"fmt"
	"math/rand"
	"reflect"
	"regexp"
	"runtime"
	"slices"
	"strings"
	"testing"
	"unicode/utf8"

	"galliard/api"
	"galliard/tree"
)

// attrs is a list of attributes: a name, its value, and so on.
func attrs(l ...string) []api.Attr {
	var out []api.Attr
	for i := 0; i < len(l); i += 2 {
		out = append(out, api.Attr{Name: l[i], Value: l[i+1]})
	}
	return out
}

// with is an element of others; leaf, one of a text.
func with(name string, kids ...api.Node) api.Node {
	return api.Node{Name: name, Kids: kids}
}

func leaf(name, text string) api.Node {
	return api.Node{Name: name, Text: text}
}

// of is an element with where its name is from, and its attributes.
func of(x api.Node, from string, l ...string) api.Node {
	x.Space, x.Attrs = from, attrs(l...)
	return x
}

// nest is an element within others, so many in all.
func nest(n int, x api.Node) api.Node {
	for range n - 1 {
		x = with("a", x)
	}
	return x
}

// many is an element with so many attributes; wide, one with so many others.
func many(n int) api.Node {
	x := with("a")
	for i := range n {
		x.Attrs = append(x.Attrs, api.Attr{Name: fmt.Sprint("a", i)})
	}
	return x
}

func wide(n int) api.Node {
	return with("a", slices.Repeat([]api.Node{with("b")}, n)...)
}

// may holds that an element may be, and is what is taken of its document.
func may(t *testing.T, x api.Node) {
	t.Helper()
	s := Text(x)
	if !May(x) {
		t.Errorf("May(%.200q): false", fmt.Sprint(x))
	}
	y, at, e := tree.Parse(s)
	if e != api.OK || at != 0 || !same(x, y) {
		t.Errorf("%.200q: Parse(%.200q): %.200q, at %d, error %d", fmt.Sprint(x), s, fmt.Sprint(y), at, e)
	}
}

// mayNot holds that an element may not be, alone, or within or beside others.
func mayNot(t *testing.T, x api.Node) {
	t.Helper()
	for _, y := range []api.Node{
		x, with("z", x), with("z", with("y", with("x", x))),
		with("z", with("y"), x), with("z", x, with("y")), with("z", with("y", leaf("a", "t")), with("x", leaf("b", "t"), x)),
	} {
		if s := Text(y); May(y) || s != "" {
			t.Errorf("May(%.200q): true, or Text: %.200q", fmt.Sprint(y), s)
		}
	}
}

// same tells by the test's own way whether two elements are: empty lists, and those that are nil, are.
func same(a, b api.Node) bool {
	return a.Space == b.Space && a.Name == b.Name && a.Text == b.Text &&
		slices.Equal(a.Attrs, b.Attrs) && slices.EqualFunc(a.Kids, b.Kids, same)
}

func TestText(t *testing.T) {
	for _, c := range []struct {
		x    api.Node
		want []string
	}{
		{with("a"), []string{`<a/>`}},
		{leaf("a", "t"), []string{`<a>t</a>`}},
		{with("a", with("b")), []string{`<a>`, ` <b/>`, `</a>`}},
		{
			of(with("a", of(with("d"), "u"), of(leaf("e", "text"), "u")), "u", "b", "c"),
			[]string{`<a xmlns="u" b="c">`, ` <d/>`, ` <e>text</e>`, `</a>`},
		},
		{
			with("a", with("b", with("c", with("d")), leaf("e", "t")), with("f"), with("g", with("h"))),
			[]string{`<a>`, ` <b>`, `  <c>`, `   <d/>`, `  </c>`, `  <e>t</e>`, ` </b>`, ` <f/>`, ` <g>`, `  <h/>`, ` </g>`, `</a>`},
		},
		{nest(3, leaf("b", "t  u")), []string{`<a>`, ` <a>`, `  <b>t  u</b>`, ` </a>`, `</a>`}},
		// Attributes in order; xmlns ahead of them.
		{of(with("a"), "", "z", "1", "b", "", "y", "3"), []string{`<a z="1" b="" y="3"/>`}},
		{of(with("a"), "u", "z", "1", "b", "2"), []string{`<a xmlns="u" z="1" b="2"/>`}},
		{of(leaf("a", "t"), "u", "b", "c"), []string{`<a xmlns="u" b="c">t</a>`}},
		{of(with("a", with("b")), "", "b", "c"), []string{`<a b="c">`, ` <b/>`, `</a>`}},
		{of(with("a"), "", "xml", "1", "xmln", "2", "xmlnsx", "3", "XMLNS", "4"), []string{`<a xml="1" xmln="2" xmlnsx="3" XMLNS="4"/>`}},
		// xmlns only where the space is another one than that around, not than that beside.
		{of(with("a"), "u"), []string{`<a xmlns="u"/>`}},
		{of(leaf("a", "t"), api.BpmnSpace), []string{`<a xmlns="` + api.BpmnSpace + `">t</a>`}},
		{of(with("a"), api.XmlSpace), []string{`<a xmlns="` + api.XmlSpace + `"/>`}},
		{
			of(with("a", with("b", with("c"), of(with("d"), "u")), of(with("e"), "u")), "u"),
			[]string{`<a xmlns="u">`, ` <b xmlns="">`, `  <c/>`, `  <d xmlns="u"/>`, ` </b>`, ` <e/>`, `</a>`},
		},
		{
			with("a", of(with("b"), "u"), of(with("c"), "u"), with("d"), of(with("e", of(leaf("f", "t"), "v")), "u")),
			[]string{`<a>`, ` <b xmlns="u"/>`, ` <c xmlns="u"/>`, ` <d/>`, ` <e xmlns="u">`, `  <f xmlns="v">t</f>`, ` </e>`, `</a>`},
		},
		// Texts, values and spaces are closed.
		{leaf("a", "<b c='d'/> & \"e\"\t\n\rf"), []string{`<a>&lt;b c='d'/&gt; &amp; &quot;e&quot;&#9;&#10;&#13;f</a>`}},
		{of(with("a"), "", "b", " <>&\"'\t\n\r "), []string{`<a b=" &lt;&gt;&amp;&quot;'&#9;&#10;&#13; "/>`}},
		{of(with("a"), " <>&\"'\t\n\r "), []string{`<a xmlns=" &lt;&gt;&amp;&quot;'&#9;&#10;&#13; "/>`}},
		{leaf("a", "&amp;]]>"), []string{`<a>&amp;amp;]]&gt;</a>`}},
		{leaf("\u00e9", "\u20ac\U0001f600\x7f"), []string{"<\u00e9>\u20ac\U0001f600\x7f</\u00e9>"}},
		// Blanks are just these four.
		{leaf("a", "\u00a0t\u2003"), []string{"<a>\u00a0t\u2003</a>"}},
		{leaf("a", "\u0085"), []string{"<a>\u0085</a>"}},
	} {
		may(t, c.x)
		if s, want := Text(c.x), strings.Join(c.want, "\n")+"\n"; s != want {
			t.Errorf("Text(%q): %q, want %q", fmt.Sprint(c.x), s, want)
		}
	}
}

func TestEmptyLists(t *testing.T) {
	for _, x := range []api.Node{with("a"), leaf("a", "t")} {
		x.Attrs, x.Kids = []api.Attr{}, []api.Node{}
		may(t, x)
	}
	if s := Text(api.Node{Name: "a", Attrs: []api.Attr{}, Kids: []api.Node{}}); s != "<a/>\n" {
		t.Errorf("%q", s)
	}
}

func TestNames(t *testing.T) {
	long := strings.Repeat("n", api.MaxName)
	for _, s := range []string{
		"a", "Z", "_", "x-1", "a.b", "\u00e9", "a\u0301", "\ufffe", "\U0010ffff", "xmlns1", "XMLNS", "xml", long, strings.Repeat("\u00e9", api.MaxName/2),
	} {
		may(t, with(s))
		may(t, leaf(s, "t"))
		may(t, with(s, with(s)))
		may(t, of(with("a"), "", s, "v"))
		may(t, of(with(s), "", s, "v"))
	}
	// An element may be named so; an attribute tells of a prefix then.
	may(t, with("xmlns"))
	may(t, of(with("xmlns", with("xmlns")), "u", "b", "c"))
	mayNot(t, of(with("a"), "", "xmlns", "u"))
	mayNot(t, of(with("a"), "u", "xmlns", "u"))
	mayNot(t, of(with("a"), "", "xmlns", ""))
	mayNot(t, of(with("a"), "", "b", "c", "xmlns", "u"))
	for _, s := range []string{
		"", "1", "-a", ".a", "a b", " a", "a ", "a:b", ":a", "a:", ":", "xmlns:p", "xml:lang", "a/", "a>", "<a", "a&amp;", "a=", "a'", "a\"", "a\n", "a\x00",
		"\xff", "a\xc3", "\xed\xa0\x80", long + "n", strings.Repeat("\u00e9", api.MaxName/2+1),
	} {
		mayNot(t, with(s))
		mayNot(t, leaf(s, "t"))
		mayNot(t, of(with("a"), "", s, "v"))
		mayNot(t, of(with("a"), "", "b", "c", s, "v"))
	}
	mayNot(t, api.Node{})
	mayNot(t, of(with("a"), "", "", ""))
}

func TestAttributes(t *testing.T) {
	for n := range api.MaxAttrs {
		may(t, many(n))
		may(t, of(with("b", many(n)), "u"))
		x := many(n)
		x.Space = "u"
		may(t, x)
	}
	for _, n := range []int{api.MaxAttrs, api.MaxAttrs + 1, 1000} {
		mayNot(t, many(n))
		x := many(n)
		x.Space = "u"
		mayNot(t, x)
	}
	// Each once: by its name alone, wherever it stands.
	mayNot(t, of(with("a"), "", "b", "1", "b", "1"))
	mayNot(t, of(with("a"), "", "b", "1", "b", "2"))
	mayNot(t, of(with("a"), "", "b", "1", "c", "2", "b", "3"))
	mayNot(t, of(with("a"), "", "c", "1", "b", "2", "d", "3", "b", "4"))
	may(t, of(with("a"), "", "b", "1", "B", "1", "bb", "1"))
	may(t, of(with("a", of(with("a"), "", "b", "1"), of(with("a"), "", "b", "1")), "", "b", "1"))
	last := many(api.MaxAttrs - 1)
	last.Attrs[api.MaxAttrs-2].Name = "a0"
	mayNot(t, last)
}

// TestEachLetter has each letter, and bytes of none, in a text, a value and a space.
func TestEachLetter(t *testing.T) {
	for r := range rune(0x10002) {
		if !utf8.ValidRune(r) {
			continue
		}
		s := "x" + string(r) + "y"
		good := r == 9 || r == 10 || r == 13 || r >= 0x20 && r != 0xfffe && r != 0xffff
		for _, x := range []api.Node{leaf("a", s), of(with("a"), "", "b", s), of(with("a"), s), of(with("a"), "", "b", "", "c", string(r)), of(with("a"), string(r))} {
			if May(x) != good || (Text(x) != "") != good {
				t.Fatalf("May(%q): %v, Text: %q", fmt.Sprint(x), May(x), Text(x))
			}
			if y, _, e := tree.Parse(Text(x)); good && (e != api.OK || !same(x, y)) {
				t.Fatalf("%q: Parse(%q): %q, error %d", fmt.Sprint(x), Text(x), fmt.Sprint(y), e)
			}
		}
	}
	for _, s := range []string{
		"\x80", "\xbf", "\xc3", "\xff", "\xc0\x80", "\xc1\xbf", "\xe0\x80\x80", "\xed\xa0\x80", "\xed\xbf\xbf", "\xf0\x80\x80\x80", "\xf4\x90\x80\x80", "\xf8", "t\xe2\x82", "\xe2\x82t", "t\x00", "\x0b", "\x1f", "t\ufffe", "\uffff",
	} {
		mayNot(t, leaf("a", s))
		mayNot(t, of(with("a"), "", "b", s))
		mayNot(t, of(with("a"), "", "b", "", "c", "t"+s))
		mayNot(t, of(with("a"), s))
	}
	may(t, leaf("a", "\ufffd\U0001fffe\U0010ffff"))
}

func TestTexts(t *testing.T) {
	for _, b := range []string{" ", "\t", "\n", "\r"} {
		may(t, leaf("a", "t"+b+"u"))
		may(t, leaf("a", "t"+b+b+"u"))
		for _, s := range []string{b, b + b, b + "t", "t" + b, b + "t" + b, "t u" + b} {
			mayNot(t, leaf("a", s))
			mayNot(t, api.Node{Name: "a", Text: s, Kids: []api.Node{with("b")}})
			// Values and spaces may have them.
			may(t, of(with("a"), "", "b", s))
			may(t, of(leaf("a", "t"), s))
		}
	}
	// No text beside elements.
	mayNot(t, api.Node{Name: "a", Text: "t", Kids: []api.Node{with("b")}})
	mayNot(t, api.Node{Name: "a", Text: "t", Kids: []api.Node{leaf("b", "u"), with("c")}})
	may(t, with("a", leaf("b", "u"), leaf("c", "v")))
}

func TestDeep(t *testing.T) {
	for n := 1; n <= api.MaxDepth; n++ {
		may(t, nest(n, with("b")))
		may(t, nest(n, leaf("b", "t")))
	}
	may(t, nest(api.MaxDepth-1, with("a", with("b"), with("c"))))
	may(t, with("a", with("b"), nest(api.MaxDepth-1, with("c")), nest(api.MaxDepth-1, with("c"))))
	// Each one of a space of its own.
	x := api.Node{Space: "u", Name: "a"}
	for i := range api.MaxDepth - 1 {
		x = api.Node{Space: fmt.Sprint("u", i), Name: "a", Kids: []api.Node{x}}
	}
	may(t, x)
	for _, n := range []int{api.MaxDepth + 1, api.MaxDepth + 2, 1000} {
		mayNot(t, nest(n, with("b")))
		mayNot(t, nest(n, leaf("b", "t")))
		mayNot(t, with("a", with("b"), nest(n-1, with("b")), with("c")))
	}
	mayNot(t, nest(3000000, with("b")))
}

func TestMany(t *testing.T) {
	may(t, wide(api.MaxNodes-1))
	may(t, with("a", wide(api.MaxNodes/2-1), wide(api.MaxNodes/2-2)))
	may(t, nest(api.MaxDepth-1, wide(api.MaxNodes-api.MaxDepth+1)))
	mayNot(t, wide(api.MaxNodes))
	mayNot(t, wide(api.MaxNodes+1))
	mayNot(t, with("a", wide(api.MaxNodes/2-1), wide(api.MaxNodes/2-1)))
	mayNot(t, with("a", wide(api.MaxNodes/2-2), wide(api.MaxNodes/2-1), with("b")))
	mayNot(t, nest(api.MaxDepth-1, wide(api.MaxNodes-api.MaxDepth+2)))
	mayNot(t, wide(1000000))
	// The last one counts as the others do.
	last := wide(api.MaxNodes - 1)
	last.Kids[api.MaxNodes-2] = with("b", with("c"))
	mayNot(t, last)
	last.Kids[api.MaxNodes-2] = with("1")
	mayNot(t, last)
}

// room is how many bytes of room something takes.
func room(do func()) uint64 {
	var ahead, behind runtime.MemStats
	runtime.ReadMemStats(&ahead)
	do()
	runtime.ReadMemStats(&behind)
	return behind.TotalAlloc - ahead.TotalAlloc
}

// TestSharing has elements whose lists and texts stand in many places: they are asked no further than they may be.
func TestSharing(t *testing.T) {
	self := []api.Node{with("a")}
	self[0].Kids = self
	mayNot(t, self[0])
	twice := []api.Node{with("a"), with("b")}
	twice[0].Kids, twice[1].Kids = twice, twice
	mayNot(t, twice[1])
	x := with("a")
	for range api.MaxDepth - 1 {
		x = with("a", x, x, x)
	}
	mayNot(t, x)
	million := slices.Repeat([]api.Node{with("b")}, 1000000)
	mayNot(t, with("a", slices.Repeat([]api.Node{{Name: "c", Kids: million}}, 1000)...))
	// Texts that each has: they may be, but are too long.
	text, huge := strings.Repeat("&", 10000), strings.Repeat("\"", 1<<20)
	long := with("a", slices.Repeat([]api.Node{of(leaf("b", text), text, "c", text, "d", text)}, api.MaxNodes-1)...)
	for _, x := range []api.Node{long, of(leaf("b", huge), huge, "c", huge), with("a", leaf("b", huge), leaf("c", huge))} {
		var s string
		taken := room(func() { s = Text(x) })
		if !May(x) || s != "" || taken > 20*api.MaxDoc {
			t.Errorf("May: %v, Text: %d bytes, %d taken", May(x), len(s), taken)
		}
	}
	shared := []api.Node{of(leaf("b", "t"), "u", "c", "d")}
	may(t, with("a", with("e", shared...), with("f", shared...)))
}

func TestBig(t *testing.T) {
	tags := len("<a></a>\n")
	for _, c := range []struct {
		x    func(s string) api.Node
		unit string
		size int
		rest int
	}{
		{func(s string) api.Node { return leaf("a", s) }, "t", 1, tags},
		{func(s string) api.Node { return leaf("a", s) }, "\u00e9", 2, tags},
		{func(s string) api.Node { return leaf("a", s) }, "&", 5, tags},
		{func(s string) api.Node { return leaf("a", s) }, "\"", 6, tags},
		{func(s string) api.Node { return of(with("a"), "", "b", s) }, "\n", 5, len("<a b=\"\"/>\n")},
		{func(s string) api.Node { return of(with("a"), s) }, "<", 4, len("<a xmlns=\"\"/>\n")},
		{func(s string) api.Node { return with("a", leaf("b", s), with("c")) }, "t", 1, len("<a>\n <b></b>\n <c/>\n</a>\n")},
		{func(s string) api.Node { return with("a", with("c"), of(with("b"), "", "d", s)) }, "t", 1, len("<a>\n <c/>\n <b d=\"\"/>\n</a>\n")},
	} {
		n := (api.MaxDoc - c.rest) / c.size
		fill := strings.Repeat("x", api.MaxDoc-c.rest-n*c.size)
		most := strings.Repeat(c.unit, n) + fill
		may(t, c.x(most))
		if s := Text(c.x(most)); len(s) != api.MaxDoc {
			t.Errorf("%q: %d bytes", c.unit, len(s))
		}
		less := c.x(most[len(c.unit):])
		may(t, less)
		if s := Text(less); len(s) != api.MaxDoc-c.size {
			t.Errorf("%q: %d bytes", c.unit, len(s))
		}
		for _, s := range []string{most + "x", most + c.unit, most + strings.Repeat("x", 20), most + most, strings.Repeat(c.unit, api.MaxDoc+1)} {
			if x := c.x(s); !May(x) || Text(x) != "" {
				t.Errorf("%q: May: %v, Text: %d bytes", c.unit, May(x), len(Text(x)))
			}
		}
	}
	// May asks for no bytes; what may not be has no text, long or not.
	mayNot(t, leaf("1", strings.Repeat("t", api.MaxDoc+1)))
	// A long one in the middle: what stands behind it would find room.
	gap := with("a", with("b"), leaf("c", strings.Repeat("t", api.MaxDoc)), with("d"))
	if s := Text(gap); !May(gap) || s != "" {
		t.Errorf("%d bytes", len(s))
	}
}

// TestBigOfMany has as many elements as there may be: their tags and blanks count among the bytes, too.
func TestBigOfMany(t *testing.T) {
	name := strings.Repeat("b", api.MaxName)
	row := slices.Repeat([]api.Node{with(name)}, api.MaxNodes-1)
	x := with("a", row...)
	empty := len("<a>\n</a>\n") + len(row)*len(" <"+name+"/>\n")
	if s := Text(x); len(s) != empty {
		t.Errorf("%d bytes, want %d", len(s), empty)
	}
	// A text in one of them takes all that is left.
	tags := len("></"+name+">") - len("/>")
	x.Kids[7].Text = strings.Repeat("t", api.MaxDoc-empty-tags)
	may(t, x)
	if s := Text(x); len(s) != api.MaxDoc {
		t.Errorf("%d bytes", len(s))
	}
	x.Kids[7].Text += "t"
	if s := Text(x); !May(x) || s != "" {
		t.Errorf("%d bytes", len(s))
	}
}

// TestUnchanged holds that what is handed in stays as it is, and what is answered too.
func TestUnchanged(t *testing.T) {
	made := func() api.Node {
		return of(with("a", of(leaf("b", "t<"), "u", "c", "d&"), with("e")), "v", "f", "\n")
	}
	x := made()
	first := Text(x)
	if !May(x) || !reflect.DeepEqual(x, made()) {
		t.Errorf("changed: %v", x)
	}
	kept := strings.Clone(first)
	x.Attrs[0].Value, x.Kids[0].Text, x.Kids[1].Name = "new", "new", "new"
	if second := Text(x); first != kept || second == first || Text(made()) != first {
		t.Errorf("%q, %q, %q", kept, first, second)
	}
}

// lines writes an element by the test's own way, a line each.
func lines(x api.Node, around string) []string {
	closed := strings.NewReplacer("&", "&amp;", "<", "&lt;", ">", "&gt;", `"`, "&quot;", "\t", "&#9;", "\n", "&#10;", "\r", "&#13;").Replace
	head := "<" + x.Name
	if x.Space != around {
		head += fmt.Sprintf(` xmlns="%s"`, closed(x.Space))
	}
	for _, a := range x.Attrs {
		head += fmt.Sprintf(` %s="%s"`, a.Name, closed(a.Value))
	}
	if x.Text != "" {
		return []string{head + ">" + closed(x.Text) + "</" + x.Name + ">"}
	}
	if len(x.Kids) == 0 {
		return []string{head + "/>"}
	}
	out := []string{head + ">"}
	for _, k := range x.Kids {
		for _, l := range lines(k, x.Space) {
			out = append(out, " "+l)
		}
	}
	return append(out, "</"+x.Name+">")
}

var (
	named   = regexp.MustCompile(`^[a-zA-Z_\x{80}-\x{10ffff}][a-zA-Z_\x{80}-\x{10ffff}0-9.-]*$`)
	lettery = regexp.MustCompile(`^[\t\n\r -\x{d7ff}\x{e000}-\x{fffd}\x{10000}-\x{10ffff}]*$`)
	blanked = regexp.MustCompile(`^[ \t\n\r]|[ \t\n\r]$`)
)

// right tells by forms whether an element may be that is neither too deep nor has too many.
func right(x api.Node) bool {
	isText := func(s string) bool { return utf8.ValidString(s) && lettery.MatchString(s) }
	isName := func(s string) bool {
		return utf8.ValidString(s) && named.MatchString(s) && len(s) <= api.MaxName
	}
	seen := map[string]bool{"xmlns": true}
	for _, a := range x.Attrs {
		if seen[a.Name] || !isName(a.Name) || !isText(a.Value) {
			return false
		}
		seen[a.Name] = true
	}
	for _, k := range x.Kids {
		if !right(k) || x.Text != "" {
			return false
		}
	}
	return isName(x.Name) && isText(x.Space) && isText(x.Text) && !blanked.MatchString(x.Text) && len(x.Attrs) < api.MaxAttrs
}

// drawer draws elements; some of them have something that may not be.
type drawer struct {
	dice  *rand.Rand
	wrong bool
}

func (d *drawer) one(good []string, bad ...string) string {
	if d.wrong && d.dice.Intn(25) == 0 {
		return bad[d.dice.Intn(len(bad))]
	}
	return good[d.dice.Intn(len(good))]
}

func (d *drawer) name() string {
	good := []string{"a", "b", "c", "\u00e9", "x.1", "_-", "d2", "e", "F", "xml"}
	return d.one(good, "", "a:b", "1", "\xff", "a ", "xmlns", strings.Repeat("n", api.MaxName+1))
}

func (d *drawer) text(bad ...string) string {
	good := []string{"", "t", "a<b&c>", "\"q'", "t  u", "]]>", "\u00e9\U00010000", "<a/>", "t\tu\r\nv", "&amp;", "<!-- -->", "<?x?>", "\u00a0"}
	return d.one(good, append(bad, "\x00", "\xff", "t\uffff")...)
}

// draw draws an element that is so deep at most.
func (d *drawer) draw(deep int) api.Node {
	x := api.Node{Space: d.one([]string{"", "u", "v", api.BpmnSpace, " <\"&>\n "}, "\x01"), Name: d.name()}
	for range d.dice.Intn(4) {
		a := api.Attr{Name: d.name(), Value: d.text()}
		once := !slices.ContainsFunc(x.Attrs, func(b api.Attr) bool { return a.Name == b.Name })
		if once || d.wrong && d.dice.Intn(10) == 0 {
			x.Attrs = append(x.Attrs, a)
		}
	}
	if deep > 1 && d.dice.Intn(4) > 0 {
		for range d.dice.Intn(4) {
			x.Kids = append(x.Kids, d.draw(deep-1))
		}
	}
	if len(x.Kids) == 0 || d.wrong && d.dice.Intn(25) == 0 {
		x.Text = d.text(" ", "t ", "\nt", "\t", "t\r")
	}
	return x
}

// TestDrawnElements writes drawn elements: each time it is what the test's own way writes, and that element that is taken.
func TestDrawnElements(t *testing.T) {
	dice := rand.New(rand.NewSource(7))
	good, bad := 0, 0
	for i := range 20000 {
		d := drawer{dice: dice, wrong: i%2 == 1}
		x := d.draw(1 + dice.Intn(5))
		if !right(x) {
			bad++
			if May(x) || Text(x) != "" {
				t.Fatalf("May(%q): %v, Text: %q", fmt.Sprint(x), May(x), Text(x))
			}
			continue
		}
		good++
		may(t, x)
		if s, want := Text(x), strings.Join(lines(x, ""), "\n")+"\n"; s != want {
			t.Fatalf("Text(%q): %q, want %q", fmt.Sprint(x), s, want)
		}
		if y, _, _ := tree.Parse(Text(x)); !tree.Same(x, y) || Text(y) != Text(x) {
			t.Fatalf("%q, %q", fmt.Sprint(x), fmt.Sprint(y))
		}
		if t.Failed() {
			return
		}
	}
	if good < 5000 || bad < 2000 {
		t.Errorf("%d may be, %d may not", good, bad)
	}
}

// TestDocuments takes documents, and writes what they are: that may be, and is the same again.
func TestDocuments(t *testing.T) {
	for _, s := range []string{
		"<a/>", "<p:a xmlns:p='u'/>", "<p:a xmlns:p='u' xmlns='v' c='d'><b/><p:b> t </p:b><b xmlns=''/></p:a>",
		"<!-- x --><a>\n<b>&lt;<![CDATA[ & ]]>t</b><?y?></a>\n", "<xml:a/>", "<a b='&#9;&quot;'>&#xe9;</a>",
	} {
		x, _, e := tree.Parse(s)
		if e != api.OK {
			t.Fatalf("Parse(%q): error %d", s, e)
		}
		may(t, x)
	}
	// One attribute more than there is room for beside xmlns: a document may be so, but not what is written.
	full := "<a"
	for i := range api.MaxAttrs {
		full += fmt.Sprintf(" a%d=''", i)
	}
	x, _, e := tree.Parse(full + "/>")
	if e != api.OK {
		t.Fatalf("error %d", e)
	}
	mayNot(t, x)
}
