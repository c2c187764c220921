package space

import (
	"fmt"
	"math/rand"
	"reflect"
	"slices"
	"strconv"
	"strings"
	"testing"

	"galliard/api"
)

// attrs is a list of attributes: a name, its value, and so on.
func attrs(l ...string) []api.Attr {
	var out []api.Attr
	for i := 0; i < len(l); i += 2 {
		out = append(out, api.Attr{Name: l[i], Value: l[i+1]})
	}
	return out
}

// enter goes into an element of which all attributes may be, and none is left.
func enter(t *testing.T, s *Spaces, l ...string) {
	t.Helper()
	if rest, e := s.Enter(attrs(l...)); len(rest) != 0 || e != api.OK {
		t.Fatalf("Enter(%q): %v, error %d", l, rest, e)
	}
}

// holdOf holds what prefixes stand for: a prefix, its space, and so on; "none": it is not known.
func holdOf(t *testing.T, s *Spaces, l ...string) {
	t.Helper()
	for i := 0; i < len(l); i += 2 {
		want, known := l[i+1], true
		if want == "none" {
			want, known = "", false
		}
		if got, ok := s.Of(l[i]); got != want || ok != known {
			t.Errorf("Of(%q): %q, %v, want %q, %v", l[i], got, ok, want, known)
		}
	}
}

// tellings tells of so many prefixes, p and a number each, from a number on.
func tellings(from, n int) []string {
	var l []string
	for i := range n {
		l = append(l, "xmlns:p"+strconv.Itoa(from+i), "u"+strconv.Itoa(from+i))
	}
	return l
}

func TestNew(t *testing.T) {
	s := New()
	if s.Depth() != 0 {
		t.Errorf("Depth: %d", s.Depth())
	}
	holdOf(t, s, "xml", api.XmlSpace, "", "", "xmlns", "none", "p", "none", "xml:a", "none", "Xml", "none", " ", "none")
}

func TestWhatIsToldOf(t *testing.T) {
	for _, c := range []struct {
		l    []string
		want []string
	}{
		{nil, []string{"", "", "p", "none"}},
		{[]string{"xmlns:p", "u"}, []string{"p", "u", "", "", "q", "none", "xmlns:p", "none", "xmlns", "none"}},
		{[]string{"xmlns", "u"}, []string{"", "u", "xml", api.XmlSpace, "xmlns", "none"}},
		{[]string{"xmlns", "u", "xmlns:p", "v", "xmlns:q", "w"}, []string{"", "u", "p", "v", "q", "w"}},
		{[]string{"xmlns:q", "u", "xmlns:p", "u", "xmlns", "u"}, []string{"", "u", "p", "u", "q", "u"}},
		// No prefix may stand for nothing: that is no prefix that is told to.
		{[]string{"xmlns", ""}, []string{"", ""}},
		// A space is any text.
		{[]string{"xmlns:p", " ", "xmlns:q", "\x00\xff", "xmlns", "xml"}, []string{"p", " ", "q", "\x00\xff", "", "xml"}},
		{[]string{"xmlns:p", api.XmlSpace, "xmlns", api.XmlSpace}, []string{"p", api.XmlSpace, "", api.XmlSpace, "xml", api.XmlSpace}},
		// Prefixes that are nearly one of those that are kept.
		{[]string{"xmlns:XML", "u", "xmlns:xmlx", "v", "xmlns:xm", "w", "xmlns:xmlnsx", "x", "xmlns:Xmlns", "y"},
			[]string{"XML", "u", "xmlx", "v", "xm", "w", "xmlnsx", "x", "Xmlns", "y", "xml", api.XmlSpace, "xmlns", "none"}},
		// The last one that was told, of those of one element too.
		{[]string{"xmlns:p", "u", "xmlns:p", "v"}, []string{"p", "v"}},
		{[]string{"xmlns", "u", "xmlns", ""}, []string{"", ""}},
	} {
		s := New()
		enter(t, s, c.l...)
		holdOf(t, s, c.want...)
		s.Leave()
		holdOf(t, s, "", "", "p", "none", "q", "none", "xml", api.XmlSpace)
	}
}

func TestElementsWithinElements(t *testing.T) {
	s := New()
	enter(t, s, "xmlns:p", "u", "xmlns", "d")
	enter(t, s)
	holdOf(t, s, "p", "u", "", "d", "q", "none")
	enter(t, s, "xmlns:q", "v", "xmlns:p", "w", "xmlns", "")
	holdOf(t, s, "p", "w", "", "", "q", "v")
	enter(t, s, "xmlns", "e")
	holdOf(t, s, "p", "w", "", "e", "q", "v")
	if s.Depth() != 4 {
		t.Errorf("Depth: %d", s.Depth())
	}
	s.Leave()
	holdOf(t, s, "p", "w", "", "", "q", "v")
	s.Leave()
	holdOf(t, s, "p", "u", "", "d", "q", "none")
	enter(t, s, "xmlns:q", "x")
	holdOf(t, s, "p", "u", "", "d", "q", "x")
	s.Leave()
	s.Leave()
	holdOf(t, s, "p", "u", "", "d", "q", "none")
	s.Leave()
	holdOf(t, s, "p", "none", "", "", "q", "none", "xml", api.XmlSpace)
	if s.Depth() != 0 {
		t.Errorf("Depth: %d", s.Depth())
	}
}

func TestAttributesThatTellOfNone(t *testing.T) {
	for _, c := range []struct{ l, want []string }{
		{nil, nil},
		{[]string{"a", "b"}, []string{"a", "b"}},
		{[]string{"b", "1", "xmlns", "u", "a", "2", "xmlns:p", "v", "c", ""}, []string{"b", "1", "a", "2", "c", ""}},
		{[]string{"xmlns:p", "u", "p:a", "1", "xml:lang", "2", "xml", "", "p:xmlns", "3"}, []string{"p:a", "1", "xml:lang", "2", "xml", "", "p:xmlns", "3"}},
		{[]string{"xmlnsp", "", "xmln", "", "XMLNS", "u", "Xmlns:p", "u", " xmlns", "", "xmlns ", "", "xmlns.p", "", "xmlns-", ""},
			[]string{"xmlnsp", "", "xmln", "", "XMLNS", "u", "Xmlns:p", "u", " xmlns", "", "xmlns ", "", "xmlns.p", "", "xmlns-", ""}},
		// Neither what is no name, nor one that is there twice, is looked at here.
		{[]string{"", "x", ":", "y", "1:2:3", "z", "\xff", "\x00", "a", "1", "a", "2"}, []string{"", "x", ":", "y", "1:2:3", "z", "\xff", "\x00", "a", "1", "a", "2"}},
	} {
		s := New()
		if rest, e := s.Enter(attrs(c.l...)); e != api.OK || !slices.Equal(rest, attrs(c.want...)) || s.Depth() != 1 {
			t.Errorf("Enter(%q): %v, error %d, depth %d", c.l, rest, e, s.Depth())
		}
	}
}

func TestForm(t *testing.T) {
	for _, c := range [][]string{
		{"xmlns:xml", "u"},
		{"xmlns:xml", api.XmlSpace},
		{"xmlns:xml", ""},
		{"xmlns:xmlns", "u"},
		{"xmlns:xmlns", ""},
		{"xmlns:xmlns", "http://www.w3.org/2000/xmlns/"},
		{"xmlns:p", ""},
		{"xmlns:q", ""},
	} {
		s := New()
		enter(t, s, "xmlns:q", "around", "xmlns:r", "around")
		// What was told of ahead of the error counts, what is behind it does not.
		l := append([]string{"a", "b", "xmlns:q", "u", "xmlns", "v"}, c...)
		rest, e := s.Enter(attrs(append(l, "xmlns:r", "w", "c", "d")...))
		if e != api.ErrForm || rest != nil || s.Depth() != 2 {
			t.Errorf("Enter(%q): %v, error %d, depth %d", l, rest, e, s.Depth())
		}
		holdOf(t, s, "q", "u", "", "v", "r", "around", "p", "none", "xmlns", "none", "xml", api.XmlSpace)
		s.Leave()
		holdOf(t, s, "q", "around", "", "", "r", "around", "p", "none")
		enter(t, s, "xmlns:p", "again")
		holdOf(t, s, "p", "again")
	}
}

// room is how many can be told at first: xml and no prefix are known from the beginning on.
const room = api.MaxSpaces - 2

func TestBig(t *testing.T) {
	s := New()
	enter(t, s, tellings(0, room)...)
	holdOf(t, s, "p0", "u0", fmt.Sprint("p", room-1), fmt.Sprint("u", room-1))
	// Where all are known, elements may be that tell of none.
	if rest, e := s.Enter(attrs("a", "b")); e != api.OK || !slices.Equal(rest, attrs("a", "b")) {
		t.Errorf("%v, error %d", rest, e)
	}
	for _, c := range []struct {
		name, value string
		e           api.Errno
	}{
		{"xmlns:q", "v", api.ErrBig},
		{"xmlns", "v", api.ErrBig},
		{"xmlns", "", api.ErrBig},
		{"xmlns:p0", "v", api.ErrBig},
		{"xmlns:p0", "u0", api.ErrBig},
		// That it may not be is told ahead of that.
		{"xmlns:q", "", api.ErrForm},
		{"xmlns:xml", "v", api.ErrForm},
		{"xmlns:xmlns", "v", api.ErrForm},
	} {
		rest, e := s.Enter(attrs("a", "b", c.name, c.value, "xmlns:xml", "v"))
		if e != c.e || rest != nil || s.Depth() != 3 {
			t.Errorf("%q=%q: %v, error %d, depth %d", c.name, c.value, rest, e, s.Depth())
		}
		holdOf(t, s, "q", "none", "", "", "p0", "u0")
		s.Leave()
	}
}

func TestBigAndLeave(t *testing.T) {
	s := New()
	enter(t, s, tellings(0, room-2)...)
	rest, e := s.Enter(attrs("xmlns:q", "1", "xmlns:q", "2", "a", "b", "xmlns:q", "3"))
	if e != api.ErrBig || rest != nil || s.Depth() != 2 {
		t.Errorf("%v, error %d, depth %d", rest, e, s.Depth())
	}
	holdOf(t, s, "q", "2", "p0", "u0")
	s.Leave()
	holdOf(t, s, "q", "none", "p0", "u0")
	enter(t, s, "xmlns:q", "1", "xmlns", "2")
	holdOf(t, s, "q", "1", "", "2")
	s.Leave()
	s.Leave()
	enter(t, s, tellings(1000, room)...)
	holdOf(t, s, "p0", "none", "p1000", "u1000")
}

// TestBigWithinOneAnother tells of one prefix in each element: it counts as often as it is told.
func TestBigWithinOneAnother(t *testing.T) {
	s := New()
	for i := range room {
		enter(t, s, "xmlns:p", strconv.Itoa(i))
	}
	if _, e := s.Enter(attrs("xmlns:p", "more")); e != api.ErrBig {
		t.Errorf("error %d", e)
	}
	s.Leave()
	for i := room - 1; i >= 0; i-- {
		holdOf(t, s, "p", strconv.Itoa(i))
		s.Leave()
	}
	holdOf(t, s, "p", "none")
}

func TestDepth(t *testing.T) {
	s := New()
	for range 3 {
		s.Leave()
	}
	if s.Depth() != 0 {
		t.Errorf("out of none: %d", s.Depth())
	}
	holdOf(t, s, "xml", api.XmlSpace, "", "")
	enter(t, s, "xmlns:p", "u")
	s.Leave()
	s.Leave()
	enter(t, s, "xmlns:q", "v")
	if s.Depth() != 1 {
		t.Errorf("within one: %d", s.Depth())
	}
	// How deep elements may be within one another is another layer's.
	const deep = 100000
	for range deep {
		enter(t, s)
	}
	if s.Depth() != deep+1 {
		t.Errorf("deep: %d", s.Depth())
	}
	holdOf(t, s, "q", "v")
	for range deep {
		s.Leave()
	}
	holdOf(t, s, "q", "v", "p", "none")
	s.Leave()
	holdOf(t, s, "q", "none")
}

func TestName(t *testing.T) {
	s := New()
	enter(t, s, "xmlns:p", "u", "xmlns:\u00e9", "v", "xmlns:"+strings.Repeat("n", api.MaxName), "w")
	long := strings.Repeat("n", api.MaxName)
	for _, c := range []struct {
		name, space, rest string
	}{
		{"a", "", "a"},
		{"p", "", "p"},
		{"xml", "", "xml"},
		{"xmlns", "", "xmlns"},
		{"p:a", "u", "a"},
		{"p:p", "u", "p"},
		{"p:xmlns", "u", "xmlns"},
		{"xml:lang", api.XmlSpace, "lang"},
		{"\u00e9:\u00e9", "v", "\u00e9"},
		{"_-.9", "", "_-.9"},
		{long + ":" + long, "w", long},
	} {
		if space, rest, ok := s.Name(c.name); space != c.space || rest != c.rest || !ok {
			t.Errorf("Name(%q): %q, %q, %v", c.name, space, rest, ok)
		}
	}
	for _, name := range []string{
		"", ":", "p:", ":a", "p:a:b", "p::a", "1", "p:1", "-a", " a", "a ", "p: a", "p:a\xff", "\xff", "p\xff:a", "a\x00",
		"p:" + long + "n", long + "n:a", long + "n",
		"q:a", "P:a", "xmlns:p", "xmlns:xmlns", "xmlns:xml", "Xml:a",
	} {
		if space, rest, ok := s.Name(name); space != "" || rest != "" || ok {
			t.Errorf("Name(%q): %q, %q, %v", name, space, rest, ok)
		}
	}
	enter(t, s, "xmlns", "d", "xmlns:p", "w")
	for name, want := range map[string]string{"a": "d", "xmlns": "d", "p:a": "w", "xml:a": api.XmlSpace} {
		if space, _, ok := s.Name(name); space != want || !ok {
			t.Errorf("within: Name(%q): %q, %v", name, space, ok)
		}
	}
	s.Leave()
	s.Leave()
	if space, rest, ok := s.Name("p:a"); space != "" || rest != "" || ok {
		t.Errorf("behind: %q, %q, %v", space, rest, ok)
	}
}

func TestOfNone(t *testing.T) {
	var s *Spaces
	for _, l := range [][]api.Attr{nil, attrs("a", "b"), attrs("xmlns:xml", "")} {
		if rest, e := s.Enter(l); rest != nil || e != api.ErrInput {
			t.Errorf("Enter(%v): %v, error %d", l, rest, e)
		}
	}
	s.Leave()
	if s.Depth() != 0 {
		t.Errorf("Depth: %d", s.Depth())
	}
	holdOf(t, s, "", "none", "xml", "none", "p", "none")
	for _, name := range []string{"a", "xml:a", "", ":"} {
		if space, rest, ok := s.Name(name); space != "" || rest != "" || ok {
			t.Errorf("Name(%q): %q, %q, %v", name, space, rest, ok)
		}
	}
}

// TestOwn holds that what is handed in is neither changed nor held, that what is told is the caller's, and that two know nothing of one another.
func TestOwn(t *testing.T) {
	s, other := New(), New()
	l := attrs("a", "1", "xmlns:p", "u", "b", "2", "c", "3")
	rest, e := s.Enter(l)
	if e != api.OK || !slices.Equal(l, attrs("a", "1", "xmlns:p", "u", "b", "2", "c", "3")) {
		t.Errorf("handed in: %v, error %d", l, e)
	}
	l[0].Value, l[1].Value, l[2].Name = "x", "x", "xmlns:q"
	if !slices.Equal(rest, attrs("a", "1", "b", "2", "c", "3")) {
		t.Errorf("told: %v", rest)
	}
	rest[0] = api.Attr{Name: "xmlns:p", Value: "y"}
	holdOf(t, s, "p", "u", "q", "none")
	holdOf(t, other, "p", "none")
	if other.Depth() != 0 {
		t.Errorf("the other one's depth: %d", other.Depth())
	}
}

// told is what one element tells of, by the test's own way: the last of each prefix, and how many they are with those ahead.
type told struct {
	spaces map[string]string
	count  int
}

// own knows what prefixes stand for by a list of maps.
type own []told

func (o own) count() int {
	n := 0
	for _, w := range o {
		n += w.count
	}
	return n
}

func (o own) of(prefix string) (string, bool) {
	for i := len(o) - 1; i >= 0; i-- {
		if space, ok := o[i].spaces[prefix]; ok {
			return space, true
		}
	}
	return "", false
}

// enter is what an element comes to: its attributes that are left, its error, and what is known within it.
func (o own) enter(l []api.Attr) (own, []api.Attr, api.Errno) {
	o = append(o, told{spaces: map[string]string{}})
	last := &o[len(o)-1]
	var rest []api.Attr
	for _, a := range l {
		parts := strings.SplitN(a.Name, ":", 2)
		if parts[0] != "xmlns" {
			rest = append(rest, a)
			continue
		}
		prefix := strings.Join(parts[1:], "")
		if prefix == "xml" || prefix == "xmlns" || prefix != "" && a.Value == "" {
			return o, nil, api.ErrForm
		}
		if o.count() == api.MaxSpaces {
			return o, nil, api.ErrBig
		}
		last.spaces[prefix] = a.Value
		last.count++
	}
	return o, rest, api.OK
}

// draw draws an element's attributes, few of which may not be.
func draw(dice *rand.Rand) []api.Attr {
	names := []string{"a", "p:a", "xml:a", "xmlnsa", "xmlns", "xmlns:p", "xmlns:q", "xmlns:r"}
	values := []string{"u", "v", "w", api.XmlSpace}
	var l []api.Attr
	for range dice.Intn(12) {
		a := api.Attr{Name: names[dice.Intn(len(names))], Value: values[dice.Intn(len(values))]}
		switch dice.Intn(60) {
		case 0:
			a.Name = "xmlns:xml"
		case 1:
			a.Name = "xmlns:xmlns"
		case 2, 3:
			a.Value = ""
		}
		l = append(l, a)
	}
	return l
}

func TestDrawnElements(t *testing.T) {
	dice := rand.New(rand.NewSource(5))
	errors := map[api.Errno]int{}
	for range 1000 {
		s := New()
		o := own{{spaces: map[string]string{"xml": api.XmlSpace, "": ""}, count: 2}}
		for range 150 {
			if dice.Intn(3) == 0 {
				s.Leave()
				o = o[:max(len(o)-1, 1)]
			} else {
				l := draw(dice)
				var wantRest []api.Attr
				var wantE api.Errno
				o, wantRest, wantE = o.enter(l)
				rest, e := s.Enter(l)
				errors[wantE]++
				if e != wantE || !reflect.DeepEqual(rest, wantRest) {
					t.Fatalf("Enter(%v): %v, error %d, want %v, error %d", l, rest, e, wantRest, wantE)
				}
			}
			if s.Depth() != len(o)-1 {
				t.Fatalf("Depth: %d, want %d", s.Depth(), len(o)-1)
			}
			holdAll(t, s, o)
		}
	}
	for _, e := range []api.Errno{api.OK, api.ErrForm, api.ErrBig} {
		if errors[e] < 1000 {
			t.Errorf("error %d was drawn %d times", e, errors[e])
		}
	}
}

// holdAll holds what is known of each prefix against the test's own way.
func holdAll(t *testing.T, s *Spaces, o own) {
	t.Helper()
	for _, prefix := range []string{"", "xml", "xmlns", "p", "q", "r", "s"} {
		want, known := o.of(prefix)
		if got, ok := s.Of(prefix); got != want || ok != known {
			t.Fatalf("Of(%q): %q, %v, want %q, %v", prefix, got, ok, want, known)
		}
		name, rest := strings.TrimPrefix(prefix+":n", ":"), ""
		if known {
			rest = "n"
		}
		if space, got, ok := s.Name(name); space != want || got != rest || ok != known {
			t.Fatalf("Name(%q): %q, %q, %v, want %q, %q, %v", name, space, got, ok, want, rest, known)
		}
	}
}
