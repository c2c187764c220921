package read

import (
	"fmt"
	"math/rand"
	"reflect"
	"runtime"
	"slices"
	"strings"
	"testing"

	"galliard/api"
	"galliard/tree"
	"galliard/write"
)

// el is an element from BPMN, with its attributes: a name, its value, and so on.
func el(name string, l ...string) api.Node {
	x := api.Node{Space: api.BpmnSpace, Name: name}
	for i := 0; i < len(l); i += 2 {
		x.Attrs = append(x.Attrs, api.Attr{Name: l[i], Value: l[i+1]})
	}
	return x
}

// with is an element with others in it; leaf, one with a text.
func with(x api.Node, kids ...api.Node) api.Node {
	x.Kids = kids
	return x
}

func leaf(name, text string) api.Node {
	x := el(name)
	x.Text = text
	return x
}

// defs is a document's element; chor, one with a choreography of these; sub and call, those within that.
func defs(kids ...api.Node) api.Node {
	return with(el("definitions"), kids...)
}

func chor(kids ...api.Node) api.Node {
	return defs(with(el("choreography", "id", "c"), kids...))
}

func sub(id string, kids ...api.Node) api.Node {
	return with(el("subChoreography", "id", id), kids...)
}

func taskOf(id string, kids ...api.Node) api.Node {
	return with(el("choreographyTask", "id", id, "initiatingParticipantRef", "pa"), kids...)
}

func call(id string, kids ...api.Node) api.Node {
	return with(el("callChoreography", "id", id, "calledChoreographyRef", "d"), kids...)
}

func pair(inner, outer string) api.Node {
	return with(el("participantAssociation"), leaf("innerParticipantRef", inner), leaf("outerParticipantRef", outer))
}

func seq(id string) api.Node {
	return el("sequenceFlow", "id", id, "sourceRef", "x", "targetRef", "y")
}

// all has each element that may be, and each attribute that may.
func all() api.Node {
	inside := []api.Node{
		el("startEvent", "id", "s", "name", "n"), el("endEvent", "id", "e", "name", "n"), el("exclusiveGateway", "id", "x", "name", "n"),
		el("parallelGateway", "id", "a", "name", "n"), el("eventBasedGateway", "id", "v", "name", "n"),
		with(el("choreographyTask", "id", "t", "initiatingParticipantRef", "pa", "loopType", "Standard", "name", "n"),
			leaf("participantRef", "pa"), leaf("participantRef", "pb"), leaf("messageFlowRef", "f"), leaf("messageFlowRef", "g")),
		with(el("callChoreography", "id", "k", "calledChoreographyRef", "d", "name", "n"), pair("pc", "pa"), pair("pd", "pb")),
		el("sequenceFlow", "id", "q", "sourceRef", "s", "targetRef", "t", "name", "n"),
	}
	within := with(el("subChoreography", "id", "u", "name", "n"), append([]api.Node{sub("w")}, inside...)...)
	return with(el("definitions", "id", "i", "targetNamespace", "u", "name", "n"),
		el("message", "id", "m", "name", "ask"),
		with(el("choreography", "id", "c", "name", "n"), append(append([]api.Node{
			el("participant", "id", "pa", "name", "A"),
			el("messageFlow", "id", "f", "sourceRef", "pa", "targetRef", "pb", "messageRef", "m", "name", "n"),
		}, inside...), within)...))
}

// same tells whether two documents are: empty lists, and those that are nil, are.
func same(a, b api.Doc) bool {
	return reflect.DeepEqual(bare(reflect.ValueOf(a)).Interface(), bare(reflect.ValueOf(b)).Interface())
}

// bare is a thing with nil lists where they are empty.
func bare(v reflect.Value) reflect.Value {
	out := reflect.New(v.Type()).Elem()
	switch v.Kind() {
	case reflect.Struct:
		for i := range v.NumField() {
			out.Field(i).Set(bare(v.Field(i)))
		}
	case reflect.Slice:
		for i := range v.Len() {
			out = reflect.Append(out, bare(v.Index(i)))
		}
	default:
		out.Set(v)
	}
	return out
}

// is holds that an element is a document; not, that it is none.
func is(t *testing.T, x api.Node, want api.Doc) {
	t.Helper()
	d, e := Doc(x)
	if e != api.OK || !same(d, want) {
		t.Errorf("Doc(%.300q): %.300q, error %d, want %.300q", fmt.Sprint(x), fmt.Sprint(d), e, fmt.Sprint(want))
	}
	if d, at, e := Parse(write.Text(x)); e != api.OK || at != 0 || !same(d, want) {
		t.Errorf("Parse(%.300q): %.300q, at %d, error %d, want %.300q", write.Text(x), fmt.Sprint(d), at, e, fmt.Sprint(want))
	}
}

func not(t *testing.T, x api.Node, want api.Errno) {
	t.Helper()
	if d, e := Doc(x); e != want || !reflect.DeepEqual(d, api.Doc{}) {
		t.Errorf("Doc(%.300q): %.300q, error %d, want %d", fmt.Sprint(x), fmt.Sprint(d), e, want)
	}
	if s := write.Text(x); s != "" {
		if d, at, e := Parse(s); e != want || at != 0 || !reflect.DeepEqual(d, api.Doc{}) {
			t.Errorf("Parse(%.300q): %.300q, at %d, error %d, want %d", s, fmt.Sprint(d), at, e, want)
		}
	}
}

func TestDoc(t *testing.T) {
	is(t, defs(), api.Doc{})
	is(t, el("definitions", "targetNamespace", "", "id", "", "name", ""), api.Doc{})
	is(t, defs(el("message", "id", "m"), el("message", "id", "l", "name", "ask it"), el("message", "name", "", "id", "m")),
		api.Doc{Msgs: []api.Msg{{Id: "m"}, {Id: "l", Name: "ask it"}, {Id: "m"}}})
	is(t, chor(), api.Doc{Chors: []api.Chor{{Id: "c"}}})
	is(t, chor(
		el("participant", "id", "pa", "name", "A"), el("participant", "id", "pb"),
		el("messageFlow", "id", "f", "sourceRef", "pa", "targetRef", "pb", "messageRef", "m"),
		taskOf("t", leaf("participantRef", "pa"), leaf("participantRef", "pb"), leaf("messageFlowRef", "f")),
		seq("q"),
	), api.Doc{Chors: []api.Chor{{
		Id:    "c",
		Parts: []api.Part{{Id: "pa", Name: "A"}, {Id: "pb"}},
		Flows: []api.Flow{{Id: "f", From: "pa", To: "pb", Msg: "m"}},
		Items: []api.Item{{Kind: api.KTask, Id: "t", First: "pa", Parts: []string{"pa", "pb"}, Flows: []string{"f"}}},
		Seqs:  []api.Seq{{Id: "q", From: "x", To: "y"}},
	}}})
	inside := []api.Item{
		{Kind: api.KStart, Id: "s"},
		{Kind: api.KEnd, Id: "e"},
		{Kind: api.KXor, Id: "x"},
		{Kind: api.KAnd, Id: "a"},
		{Kind: api.KEvent, Id: "v"},
		{Kind: api.KTask, Id: "t", First: "pa", Parts: []string{"pa", "pb"}, Flows: []string{"f", "g"}, Loop: true},
		{Kind: api.KCall, Id: "k", Called: "d", Maps: []api.Map{{Inner: "pc", Outer: "pa"}, {Inner: "pd", Outer: "pb"}}},
	}
	seqs := []api.Seq{{Id: "q", From: "s", To: "t"}}
	within := append([]api.Item{{Kind: api.KSub, Id: "w"}}, inside...)
	is(t, all(), api.Doc{
		Msgs: []api.Msg{{Id: "m", Name: "ask"}},
		Chors: []api.Chor{{
			Id:    "c",
			Parts: []api.Part{{Id: "pa", Name: "A"}},
			Flows: []api.Flow{{Id: "f", From: "pa", To: "pb", Msg: "m"}},
			Items: append(slices.Clone(inside), api.Item{Kind: api.KSub, Id: "u", Items: within, Seqs: seqs}),
			Seqs:  seqs,
		}},
	})
}

// TestKinds holds each kind's number and name.
func TestKinds(t *testing.T) {
	for i, name := range []string{
		"startEvent", "endEvent", "choreographyTask", "exclusiveGateway", "parallelGateway", "eventBasedGateway", "subChoreography", "callChoreography",
	} {
		x := el(name, "id", "i")
		want := api.Item{Kind: i + 1, Id: "i"}
		switch name {
		case "choreographyTask":
			x.Attrs = append(x.Attrs, api.Attr{Name: "initiatingParticipantRef", Value: "pa"})
			want.First = "pa"
		case "callChoreography":
			x.Attrs = append(x.Attrs, api.Attr{Name: "calledChoreographyRef", Value: "d"})
			want.Called = "d"
		}
		is(t, chor(x), api.Doc{Chors: []api.Chor{{Id: "c", Items: []api.Item{want}}}})
		is(t, chor(sub("s", sub("t", x))), api.Doc{Chors: []api.Chor{{Id: "c", Items: []api.Item{
			{Kind: api.KSub, Id: "s", Items: []api.Item{{Kind: api.KSub, Id: "t", Items: []api.Item{want}}}},
		}}}})
		not(t, chor(el(name)), api.ErrAttr)
		not(t, defs(x), api.ErrForm)
	}
}

// TestAnyOrder has elements in another order: each list keeps its own.
func TestAnyOrder(t *testing.T) {
	is(t, defs(with(el("choreography", "id", "c"), seq("q"), taskOf("t", leaf("messageFlowRef", "f"), leaf("participantRef", "pb"), leaf("messageFlowRef", "g"), leaf("participantRef", "pa"), leaf("participantRef", "pb")),
		el("participant", "id", "pz"), sub("u", seq("w"), el("endEvent", "id", "e"), seq("v"), el("startEvent", "id", "s")),
		el("messageFlow", "messageRef", "m", "targetRef", "b", "sourceRef", "a", "id", "f"), seq("p"), el("participant", "id", "pa"), el("startEvent", "id", "t")),
		el("message", "id", "m"), el("choreography", "id", "b"), el("message", "id", "l")),
		api.Doc{
			Msgs: []api.Msg{{Id: "m"}, {Id: "l"}},
			Chors: []api.Chor{{
				Id:    "c",
				Parts: []api.Part{{Id: "pz"}, {Id: "pa"}},
				Flows: []api.Flow{{Id: "f", From: "a", To: "b", Msg: "m"}},
				Items: []api.Item{
					{Kind: api.KTask, Id: "t", First: "pa", Parts: []string{"pb", "pa", "pb"}, Flows: []string{"f", "g"}},
					{Kind: api.KSub, Id: "u", Items: []api.Item{{Kind: api.KEnd, Id: "e"}, {Kind: api.KStart, Id: "s"}}, Seqs: []api.Seq{{Id: "w", From: "x", To: "y"}, {Id: "v", From: "x", To: "y"}}},
					{Kind: api.KStart, Id: "t"},
				},
				Seqs: []api.Seq{{Id: "q", From: "x", To: "y"}, {Id: "p", From: "x", To: "y"}},
			}, {Id: "b"}},
		})
	is(t, chor(call("k", with(el("participantAssociation"), leaf("outerParticipantRef", "o"), leaf("innerParticipantRef", "i")), pair("a", "b"))),
		api.Doc{Chors: []api.Chor{{Id: "c", Items: []api.Item{{Kind: api.KCall, Id: "k", Called: "d", Maps: []api.Map{{Inner: "i", Outer: "o"}, {Inner: "a", Outer: "b"}}}}}}})
}

func TestLoop(t *testing.T) {
	for _, c := range []struct {
		loop string
		want bool
		e    api.Errno
	}{
		{"None", false, api.OK}, {"Standard", true, api.OK},
		{"", false, api.ErrAttr}, {"none", false, api.ErrAttr}, {"standard", false, api.ErrAttr}, {"MultiInstanceSequential", false, api.ErrAttr}, {" Standard", false, api.ErrAttr}, {"Standard ", false, api.ErrAttr},
	} {
		x := chor(el("choreographyTask", "id", "t", "initiatingParticipantRef", "pa", "loopType", c.loop))
		if c.e != api.OK {
			not(t, x, c.e)
			continue
		}
		is(t, x, api.Doc{Chors: []api.Chor{{Id: "c", Items: []api.Item{{Kind: api.KTask, Id: "t", First: "pa", Loop: c.want}}}}})
	}
	for _, name := range []string{"startEvent", "subChoreography", "exclusiveGateway"} {
		not(t, chor(el(name, "id", "t", "loopType", "None")), api.ErrAttr)
	}
}

// TestTexts has texts as they are, empty ones too: these are no attributes.
func TestTexts(t *testing.T) {
	is(t, chor(taskOf("t", leaf("participantRef", ""), leaf("messageFlowRef", "a  b"), leaf("participantRef", "<&>"))), api.Doc{Chors: []api.Chor{{Id: "c", Items: []api.Item{
		{Kind: api.KTask, Id: "t", First: "pa", Parts: []string{"", "<&>"}, Flows: []string{"a  b"}},
	}}}})
	is(t, chor(call("k", pair("", ""))), api.Doc{Chors: []api.Chor{{Id: "c", Items: []api.Item{{Kind: api.KCall, Id: "k", Called: "d", Maps: []api.Map{{}}}}}}})
	d, e := Doc(chor(taskOf("t", leaf("participantRef", " pa "))))
	if e != api.OK || d.Chors[0].Items[0].Parts[0] != " pa " {
		t.Errorf("%+v, error %d", d, e)
	}
}

func TestParse(t *testing.T) {
	d, at, e := Parse(`<?xml version="1.0"?>
<!-- two who speak -->
<bpmn:definitions xmlns:bpmn="http://www.omg.org/spec/BPMN/20100524/MODEL" targetNamespace="u">
  <bpmn:message id="m" name="a&amp;b"/>
  <bpmn:choreography id="c">
    <bpmn:choreographyTask id="t" initiatingParticipantRef="pa">
      <bpmn:participantRef> pa </bpmn:participantRef>
      <bpmn:participantRef><![CDATA[pb]]></bpmn:participantRef>
      <bpmn:messageFlowRef>f</bpmn:messageFlowRef>
    </bpmn:choreographyTask>
  </bpmn:choreography>
</bpmn:definitions>
`)
	want := api.Doc{Msgs: []api.Msg{{Id: "m", Name: "a&b"}}, Chors: []api.Chor{{Id: "c", Items: []api.Item{
		{Kind: api.KTask, Id: "t", First: "pa", Parts: []string{"pa", "pb"}, Flows: []string{"f"}},
	}}}}
	if e != api.OK || at != 0 || !same(d, want) {
		t.Errorf("%+v, at %d, error %d", d, at, e)
	}
	space := ` xmlns="` + api.BpmnSpace + `"`
	for _, c := range []struct {
		s  string
		at int
		e  api.Errno
	}{
		// What tree tells, with its place.
		{"", 0, api.ErrForm}, {"   ", 0, api.ErrForm}, {"<definitions" + space + ">", len("<definitions" + space + ">"), api.ErrForm},
		{"<definitions" + space + "/> <a/>", len("<definitions" + space + "/> "), api.ErrForm},
		{"  \xff", 2, api.ErrUtf}, {strings.Repeat("<a>", api.MaxDepth+1), 3 * api.MaxDepth, api.ErrDeep},
		{strings.Repeat(" ", api.MaxDoc+1), api.MaxDoc, api.ErrBig},
		// That is told ahead of what is wrong with the document.
		{"<a><b/></c>", len("<a><b/>"), api.ErrForm},
		// Doc's have none.
		{"<definitions/>", 0, api.ErrForm}, {"<a" + space + "/>", 0, api.ErrForm}, {"   <definitions" + space + ">t</definitions>", 0, api.ErrForm},
		{"<definitions" + space + " a='b'/>", 0, api.ErrAttr}, {"<definitions" + space + "><message/></definitions>", 0, api.ErrAttr},
		{"<definitions" + space + "><choreography id='c'>" + strings.Repeat("<startEvent id='s'/>", api.MaxItems+1) + "</choreography></definitions>", 0, api.ErrBig},
	} {
		x, at, e := Parse(c.s)
		if _, treeAt, treeE := tree.Parse(c.s); treeE != api.OK && (treeAt != at || treeE != e) {
			t.Errorf("Parse(%.100q): at %d, error %d, but tree's are %d, %d", c.s, at, e, treeAt, treeE)
		}
		if at != c.at || e != c.e || !reflect.DeepEqual(x, api.Doc{}) {
			t.Errorf("Parse(%.100q): %+v, at %d, error %d, want at %d, error %d", c.s, x, at, e, c.at, c.e)
		}
	}
}

// form is, by the test's own table, what an element must and may have.
type form struct {
	must, may, kids []string
	text, none      bool
}

func forms() map[string]form {
	steps := strings.Fields("startEvent endEvent exclusiveGateway parallelGateway eventBasedGateway choreographyTask subChoreography callChoreography sequenceFlow")
	id := []string{"id"}
	return map[string]form{
		"":                       {kids: []string{"definitions"}},
		"definitions":            {may: []string{"targetNamespace", "id"}, kids: []string{"message", "choreography"}},
		"message":                {must: id},
		"choreography":           {must: id, kids: append([]string{"participant", "messageFlow"}, steps...)},
		"participant":            {must: id},
		"messageFlow":            {must: []string{"id", "sourceRef", "targetRef", "messageRef"}},
		"sequenceFlow":           {must: []string{"id", "sourceRef", "targetRef"}},
		"startEvent":             {must: id},
		"endEvent":               {must: id},
		"exclusiveGateway":       {must: id},
		"parallelGateway":        {must: id},
		"eventBasedGateway":      {must: id},
		"choreographyTask":       {must: []string{"id", "initiatingParticipantRef"}, may: []string{"loopType"}, kids: []string{"participantRef", "messageFlowRef"}},
		"subChoreography":        {must: id, kids: steps},
		"callChoreography":       {must: []string{"id", "calledChoreographyRef"}, kids: []string{"participantAssociation"}},
		"participantAssociation": {none: true, kids: []string{"innerParticipantRef", "outerParticipantRef"}},
		"participantRef":         {none: true, text: true},
		"messageFlowRef":         {none: true, text: true},
		"innerParticipantRef":    {none: true, text: true},
		"outerParticipantRef":    {none: true, text: true},
	}
}

// judge tells by that table what is wrong first.
type judge struct {
	forms map[string]form
	items int
}

func (j *judge) judge(around string, x api.Node) api.Errno {
	f := j.forms[x.Name]
	in := x.Space == api.BpmnSpace && slices.Contains(j.forms[around].kids, x.Name)
	if !in || x.Text != "" && !f.text || len(x.Kids) > 0 && f.kids == nil || len(x.Attrs) > 0 && f.none {
		return api.ErrForm
	}
	if x.Name == "participantAssociation" && len(x.Kids) != 2 || len(x.Kids) == 2 && x.Name == "participantAssociation" && x.Kids[0].Name == x.Kids[1].Name {
		return api.ErrForm
	}
	for _, m := range f.must {
		if !slices.ContainsFunc(x.Attrs, func(a api.Attr) bool { return a.Name == m && a.Value != "" }) {
			return api.ErrAttr
		}
	}
	for _, a := range x.Attrs {
		if a.Name == "loopType" && a.Value != "None" && a.Value != "Standard" || !slices.Contains(slices.Concat(f.must, f.may, []string{"name"}), a.Name) {
			return api.ErrAttr
		}
	}
	if strings.HasSuffix(x.Name, "Event") || strings.HasSuffix(x.Name, "Gateway") || strings.HasSuffix(x.Name, "Task") || strings.HasSuffix(x.Name, "Choreography") {
		j.items++
		if j.items > api.MaxItems {
			return api.ErrBig
		}
	}
	for _, k := range x.Kids {
		if e := j.judge(x.Name, k); e != api.OK {
			return e
		}
	}
	return api.OK
}

// judged holds that what is wrong first is that which the table tells.
func judged(t *testing.T, x api.Node) api.Errno {
	t.Helper()
	j := judge{forms: forms()}
	want := j.judge("", x)
	d, e := Doc(x)
	if e != want || e != api.OK && !reflect.DeepEqual(d, api.Doc{}) {
		t.Errorf("Doc(%.1000q): %.300q, error %d, want %d", fmt.Sprint(x), fmt.Sprint(d), e, want)
	}
	return want
}

// copied is an element with lists of its own.
func copied(x api.Node) api.Node {
	x.Attrs, x.Kids = slices.Clone(x.Attrs), slices.Clone(x.Kids)
	for i := range x.Kids {
		x.Kids[i] = copied(x.Kids[i])
	}
	return x
}

// places are an element and those within it, as they stand.
func places(x *api.Node) []*api.Node {
	l := []*api.Node{x}
	for i := range x.Kids {
		l = append(l, places(&x.Kids[i])...)
	}
	return l
}

// TestEachFault does each thing that may be wrong to each element of one that has all of them.
func TestEachFault(t *testing.T) {
	j := forms()
	count := len(places(new(api.Node))) - 1
	whole := all()
	if e := judged(t, whole); e != api.OK {
		t.Fatal(e)
	}
	for i, p := range places(&whole) {
		f := j[p.Name]
		change := func(want api.Errno, do func(x *api.Node)) {
			t.Helper()
			count++
			x := copied(whole)
			do(places(&x)[i])
			if want == api.OK {
				judged(t, x)
				return
			}
			not(t, x, want)
			judged(t, x)
		}
		for _, s := range []string{"", "u", api.XmlSpace, strings.ToLower(api.BpmnSpace), api.BpmnSpace + "/", "http://www.omg.org/spec/BPMN/20100524/DI"} {
			change(api.ErrForm, func(x *api.Node) { x.Space = s })
		}
		for _, s := range []string{"", "a", strings.ToUpper(p.Name), p.Name + "s", "definitions1"} {
			change(api.ErrForm, func(x *api.Node) { x.Name = s })
		}
		if p.Name != "definitions" {
			change(api.ErrForm, func(x *api.Node) { x.Name = "definitions" })
		}
		if !f.text {
			change(api.ErrForm, func(x *api.Node) { x.Text = "t" })
			change(api.ErrForm, func(x *api.Node) { x.Text = " " })
			change(api.ErrForm, func(x *api.Node) { x.Text, x.Kids = "t", nil })
		}
		for name := range j {
			if !slices.Contains(f.kids, name) {
				change(api.ErrForm, func(x *api.Node) { x.Kids = append(x.Kids, el(name, "id", "i")) })
				change(api.ErrForm, func(x *api.Node) { x.Kids = []api.Node{leaf(name, "t")} })
				continue
			}
			change(api.OK, func(x *api.Node) { x.Kids = []api.Node{el(name)} })
			change(api.OK, func(x *api.Node) { x.Kids = append(x.Kids, leaf(name, "t")) })
		}
		for _, s := range []string{"id", "name", "targetNamespace", "sourceRef", "targetRef", "messageRef", "initiatingParticipantRef", "loopType", "calledChoreographyRef", "Id", "a", "xmlns", "", "participantRef"} {
			value := "None"
			has := slices.ContainsFunc(p.Attrs, func(a api.Attr) bool { return a.Name == s })
			switch {
			case f.none:
				change(api.ErrForm, func(x *api.Node) { x.Attrs = append(x.Attrs, api.Attr{Name: s, Value: value}) })
				change(api.ErrForm, func(x *api.Node) { x.Attrs = append(x.Attrs, api.Attr{Name: s}) })
			case !has && s == "name":
				change(api.OK, func(x *api.Node) { x.Attrs = append(x.Attrs, api.Attr{Name: s}) })
			case !has:
				change(api.ErrAttr, func(x *api.Node) { x.Attrs = append(x.Attrs, api.Attr{Name: s, Value: value}) })
				change(api.ErrAttr, func(x *api.Node) { x.Attrs = slices.Insert(x.Attrs, 0, api.Attr{Name: s}) })
			}
		}
		for k, a := range p.Attrs {
			want := api.Errno(api.OK)
			if slices.Contains(f.must, a.Name) {
				want = api.ErrAttr
			}
			change(want, func(x *api.Node) { x.Attrs = slices.Delete(x.Attrs, k, k+1) })
			if a.Name == "loopType" {
				change(api.ErrAttr, func(x *api.Node) { x.Attrs[k].Value = "" })
			} else {
				change(want, func(x *api.Node) { x.Attrs[k].Value = "" })
			}
			change(api.ErrAttr, func(x *api.Node) { x.Attrs[k].Name += "s" })
			if want == api.ErrAttr {
				// Of the same element what is named first is told: ErrForm.
				change(api.ErrForm, func(x *api.Node) { x.Attrs[k].Value, x.Text = "", "t" })
				change(api.ErrForm, func(x *api.Node) { x.Attrs[k].Value, x.Space = "", "u" })
			}
		}
	}
	if count < 1000 {
		t.Error(count)
	}
}

func TestAssociations(t *testing.T) {
	inner, outer := leaf("innerParticipantRef", "i"), leaf("outerParticipantRef", "o")
	for _, l := range [][]api.Node{
		{}, {inner}, {outer}, {inner, inner}, {outer, outer}, {inner, outer, inner}, {outer, inner, outer}, {inner, inner, outer}, {inner, outer, leaf("participantRef", "p")},
		{inner, leaf("participantRef", "p")}, {leaf("participantRef", "p"), outer}, {leaf("participantRef", "p"), leaf("participantRef", "p")},
		{inner, with(el("outerParticipantRef"), outer)}, {el("innerParticipantRef", "id", "i"), outer}, {inner, el("outerParticipantRef", "name", "")},
	} {
		not(t, chor(call("k", with(el("participantAssociation"), l...))), api.ErrForm)
		not(t, chor(call("k", pair("a", "b"), with(el("participantAssociation"), l...))), api.ErrForm)
	}
	// Attributes of other elements are another error.
	not(t, chor(call("k", with(el("participantAssociation", "id", "a"), inner, outer))), api.ErrForm)
	not(t, chor(with(el("callChoreography", "id", "k", "called", "d"), pair("a", "b"))), api.ErrAttr)
}

// TestFirst has two things that are wrong: the one that stands first is told.
func TestFirst(t *testing.T) {
	form, attr := el("startEvent", "id", "s"), el("startEvent")
	form.Space = "u"
	for _, in := range []func(l ...api.Node) api.Node{
		chor,
		func(l ...api.Node) api.Node { return chor(sub("s", l...)) },
		func(l ...api.Node) api.Node { return chor(seq("q"), sub("s", sub("t", l...)), form) },
		func(l ...api.Node) api.Node { return chor(sub("s", sub("t", l[0]), sub("u", l[1])), attr) },
		func(l ...api.Node) api.Node { return defs(chor(l[0]).Kids[0], chor(l[1]).Kids[0], el("message")) },
	} {
		not(t, in(form, attr), api.ErrForm)
		not(t, in(attr, form), api.ErrAttr)
	}
	// An element is ahead of those in it.
	not(t, chor(with(el("subChoreography"), form)), api.ErrAttr)
	not(t, with(el("definitions", "a", "b"), form), api.ErrAttr)
	not(t, defs(with(el("choreography"), el("message"))), api.ErrAttr)
	not(t, defs(with(el("choreography", "id", "c", "targetNamespace", "u"), form)), api.ErrAttr)
	not(t, chor(with(el("choreographyTask", "id", "t"), el("participantRef", "id", "a"))), api.ErrAttr)
	not(t, chor(taskOf("t", el("participantRef", "id", "a")), attr), api.ErrForm)
	not(t, chor(call("t", el("a")), attr), api.ErrForm)
	// Too many, and something wrong.
	most := func(l ...api.Node) api.Node {
		return chor(append(slices.Repeat([]api.Node{el("startEvent", "id", "s")}, api.MaxItems), l...)...)
	}
	not(t, most(el("endEvent", "id", "e"), attr), api.ErrBig)
	not(t, most(el("endEvent", "id", "e"), form), api.ErrBig)
	not(t, most(attr, el("endEvent", "id", "e")), api.ErrAttr)
	not(t, most(form, el("endEvent", "id", "e")), api.ErrForm)
	not(t, most(el("message"), el("endEvent", "id", "e")), api.ErrForm)
	not(t, most(el("sequenceFlow"), el("endEvent", "id", "e")), api.ErrAttr)
	not(t, most(sub("s", form)), api.ErrBig)
	not(t, most(taskOf("t", el("participantRef", "id", "a"))), api.ErrBig)
	not(t, with(el("definitions"), most(el("endEvent", "id", "e")).Kids[0], el("message")), api.ErrBig)
	not(t, with(el("definitions"), el("message"), most(el("endEvent", "id", "e")).Kids[0]), api.ErrAttr)
}

// TestItems counts all items of a document, wherever they stand, and nothing else.
func TestItems(t *testing.T) {
	row := func(n int) []api.Node { return slices.Repeat([]api.Node{el("parallelGateway", "id", "a")}, n) }
	most := api.MaxItems
	for _, in := range []func(l ...api.Node) api.Node{
		chor,
		func(l ...api.Node) api.Node { return chor(sub("s", l[1:]...)) },
		func(l ...api.Node) api.Node { return chor(sub("s", l[:7]...), sub("t", l[9:]...)) },
		func(l ...api.Node) api.Node { return chor(sub("s", append([]api.Node{sub("t")}, l[2:]...)...)) },
		func(l ...api.Node) api.Node { return defs(chor(l[:100]...).Kids[0], chor(l[100:]...).Kids[0]) },
		func(l ...api.Node) api.Node {
			return defs(chor(l[2:100]...).Kids[0], chor(taskOf("t", leaf("participantRef", "p")), call("k", pair("a", "b"))).Kids[0], chor(l[100:]...).Kids[0])
		},
	} {
		if d, e := Doc(in(row(most)...)); e != api.OK || len(d.Chors) == 0 {
			t.Errorf("error %d", e)
		}
		not(t, in(row(most+1)...), api.ErrBig)
		not(t, in(row(most+2)...), api.ErrBig)
	}
	many := chor(append(slices.Repeat([]api.Node{seq("q"), el("participant", "id", "p"), el("messageFlow", "id", "f", "sourceRef", "a", "targetRef", "b", "messageRef", "m")}, 1000),
		taskOf("t", slices.Repeat([]api.Node{leaf("participantRef", "p")}, 1000)...))...)
	if d, e := Doc(many); e != api.OK || len(d.Chors[0].Parts) != 1000 || len(d.Chors[0].Seqs) != 1000 || len(d.Chors[0].Items) != 1 {
		t.Errorf("error %d", e)
	}
}

// TestDeep has items that are more within one another than elements may be in a document, and lists that stand in themselves.
func TestDeep(t *testing.T) {
	nest := func(n int) api.Node {
		x := sub("s")
		for range n - 1 {
			x = sub("s", x)
		}
		return chor(x)
	}
	d, e := Doc(nest(api.MaxItems))
	if depth := tree.Depth(Node(d)); e != api.OK || depth != api.MaxItems+2 || Text(d) != "" {
		t.Errorf("error %d, depth %d", e, depth)
	}
	not(t, nest(api.MaxItems+1), api.ErrBig)
	not(t, nest(1000000), api.ErrBig)
	self := []api.Node{sub("s")}
	self[0].Kids = self
	not(t, chor(self...), api.ErrBig)
	not(t, chor(seq("q"), self[0]), api.ErrBig)
	loop := []api.Node{el("choreography", "id", "c")}
	loop[0].Kids = loop
	not(t, defs(loop...), api.ErrForm)
	loop = []api.Node{defs()}
	loop[0].Kids = loop
	not(t, loop[0], api.ErrForm)
}

func TestZero(t *testing.T) {
	not(t, api.Node{}, api.ErrForm)
	not(t, el(""), api.ErrForm)
	not(t, el("choreography", "id", "c"), api.ErrForm)
	not(t, el("message", "id", "c"), api.ErrForm)
	not(t, defs(defs()), api.ErrForm)
	if x := Node(api.Doc{}); !tree.Same(x, defs()) {
		t.Errorf("%q", fmt.Sprint(x))
	}
	if s := Text(api.Doc{}); s != write.Text(defs()) || s == "" {
		t.Errorf("%q", s)
	}
	x := el("definitions")
	x.Attrs, x.Kids = []api.Attr{}, []api.Node{}
	is(t, x, api.Doc{})
}

// sample is a document with one thing of each kind at least.
func sample() api.Doc {
	return api.Doc{
		Msgs: []api.Msg{{Id: "m", Name: "ask"}, {Id: "n"}},
		Chors: []api.Chor{{
			Id:    "c",
			Parts: []api.Part{{Id: "pa", Name: "A"}, {Id: "pb"}},
			Flows: []api.Flow{{Id: "f", From: "pa", To: "pb", Msg: "m"}, {Id: "g", From: "pb", To: "pa", Msg: "n"}},
			Items: []api.Item{
				{Kind: api.KTask, Id: "t", First: "pa", Parts: []string{"pa", "pb"}, Flows: []string{"f", "g"}, Loop: true},
				{Kind: api.KSub, Id: "u", Items: []api.Item{{Kind: api.KXor, Id: "x"}, {Kind: api.KSub, Id: "w", Seqs: []api.Seq{{Id: "o", From: "h", To: "i"}}}}, Seqs: []api.Seq{{Id: "r", From: "j", To: "k"}}},
				{Kind: api.KStart, Id: "s"},
				{Kind: api.KCall, Id: "k", Called: "d", Maps: []api.Map{{Inner: "pc", Outer: "pa"}, {Inner: "pd", Outer: "pb"}}},
			},
			Seqs: []api.Seq{{Id: "q", From: "s", To: "t"}, {Id: "p", From: "t", To: "e"}},
		}, {Id: "d", Items: []api.Item{{Kind: api.KEnd, Id: "e"}, {Kind: api.KAnd, Id: "a"}, {Kind: api.KEvent, Id: "v"}, {Kind: api.KTask, Id: "t", First: "p"}}}},
	}
}

func TestNode(t *testing.T) {
	want := defs(
		el("message", "id", "m", "name", "ask"), el("message", "id", "n"),
		with(el("choreography", "id", "c"),
			el("participant", "id", "pa", "name", "A"), el("participant", "id", "pb"),
			el("messageFlow", "id", "f", "sourceRef", "pa", "targetRef", "pb", "messageRef", "m"),
			el("messageFlow", "id", "g", "sourceRef", "pb", "targetRef", "pa", "messageRef", "n"),
			with(el("choreographyTask", "id", "t", "initiatingParticipantRef", "pa", "loopType", "Standard"),
				leaf("participantRef", "pa"), leaf("participantRef", "pb"), leaf("messageFlowRef", "f"), leaf("messageFlowRef", "g")),
			sub("u", el("exclusiveGateway", "id", "x"), sub("w", el("sequenceFlow", "id", "o", "sourceRef", "h", "targetRef", "i")), el("sequenceFlow", "id", "r", "sourceRef", "j", "targetRef", "k")),
			el("startEvent", "id", "s"),
			call("k", pair("pc", "pa"), pair("pd", "pb")),
			el("sequenceFlow", "id", "q", "sourceRef", "s", "targetRef", "t"), el("sequenceFlow", "id", "p", "sourceRef", "t", "targetRef", "e")),
		with(el("choreography", "id", "d"), el("endEvent", "id", "e"), el("parallelGateway", "id", "a"), el("eventBasedGateway", "id", "v"),
			el("choreographyTask", "id", "t", "initiatingParticipantRef", "p")))
	if x := Node(sample()); !tree.Same(x, want) {
		t.Errorf("%q, want %q", fmt.Sprint(x), fmt.Sprint(want))
	}
	if s := Text(sample()); s != write.Text(want) || s == "" {
		t.Errorf("%q, want %q", s, write.Text(want))
	}
	is(t, want, sample())
	// Ids that are empty are told, too; names that are, are not.
	empty := api.Doc{Msgs: []api.Msg{{}}, Chors: []api.Chor{{Parts: []api.Part{{}}, Flows: []api.Flow{{}}, Items: []api.Item{{Kind: api.KTask, Parts: []string{""}}, {Kind: api.KCall, Maps: []api.Map{{}}}}, Seqs: []api.Seq{{}}}}}
	want = defs(el("message", "id", ""), with(el("choreography", "id", ""), el("participant", "id", ""), el("messageFlow", "id", "", "sourceRef", "", "targetRef", "", "messageRef", ""),
		with(el("choreographyTask", "id", "", "initiatingParticipantRef", ""), leaf("participantRef", "")), with(el("callChoreography", "id", "", "calledChoreographyRef", ""), pair("", "")),
		el("sequenceFlow", "id", "", "sourceRef", "", "targetRef", "")))
	if x := Node(empty); !tree.Same(x, want) || Text(empty) != write.Text(want) {
		t.Errorf("%q, want %q", fmt.Sprint(x), fmt.Sprint(want))
	}
	// What one of its kind does not tell of is left out.
	for kind := api.KStart; kind <= api.KCall; kind++ {
		i := api.Item{Kind: kind, Id: "i", First: "pa", Parts: []string{"pa"}, Flows: []string{"f"}, Loop: true, Called: "d", Maps: []api.Map{{Inner: "a", Outer: "b"}}, Items: []api.Item{{Kind: api.KEnd, Id: "e"}}, Seqs: []api.Seq{{Id: "q", From: "x", To: "y"}}}
		d := api.Doc{Chors: []api.Chor{{Id: "c", Items: []api.Item{i}}}}
		x := Node(d).Kids[0].Kids[0]
		has := func(name string) bool { _, ok := tree.Get(x, name); return ok }
		if e := judged(t, Node(d)); e != api.OK || has("loopType") != (kind == api.KTask) || has("calledChoreographyRef") != (kind == api.KCall) {
			t.Errorf("%q: error %d", fmt.Sprint(x), e)
		}
	}
}

// TestNoKind has items of none: they may not be written.
func TestNoKind(t *testing.T) {
	for _, kind := range []int{0, -1, api.KCall + 1, 100, -1 << 63, 1<<63 - 1} {
		for _, l := range [][]api.Item{{{Kind: kind, Id: "i"}}, {{Kind: api.KSub, Id: "s", Items: []api.Item{{Kind: kind, Id: "i"}}}}} {
			d := api.Doc{Chors: []api.Chor{{Id: "c", Items: l}}}
			if s := Text(d); s != "" {
				t.Errorf("%q", s)
			}
			not(t, Node(d), api.ErrForm)
		}
	}
}

// TestNoText has documents that may not be written, or are too long.
func TestNoText(t *testing.T) {
	for _, d := range []api.Doc{
		{Msgs: []api.Msg{{Id: "\x00"}}}, {Msgs: []api.Msg{{Id: "m", Name: "\xff"}}}, {Chors: []api.Chor{{Id: "\uffff"}}},
		{Chors: []api.Chor{{Id: "c", Items: []api.Item{{Kind: api.KTask, Id: "t", First: "p", Parts: []string{" p"}}}}}},
		{Msgs: slices.Repeat([]api.Msg{{Id: "m"}}, api.MaxNodes)}, {Msgs: []api.Msg{{Id: strings.Repeat("m", api.MaxDoc)}}},
		{Chors: []api.Chor{{Id: "c", Seqs: slices.Repeat([]api.Seq{{}}, api.MaxNodes-1)}}},
	} {
		if s, x := Text(d), Node(d); s != "" || tree.Count(x) < 2 {
			t.Errorf("%q, %q", s, fmt.Sprint(x))
		}
	}
	for _, d := range []api.Doc{
		{Msgs: slices.Repeat([]api.Msg{{Id: "m"}}, api.MaxNodes-1)},
		{Chors: []api.Chor{{Id: "c", Seqs: slices.Repeat([]api.Seq{{Id: "q", From: "x", To: "y"}}, api.MaxNodes-2)}}},
		{Chors: []api.Chor{{Id: "c", Items: []api.Item{{Kind: api.KTask, Id: "t", First: "p", Parts: slices.Repeat([]string{"p"}, 1000), Flows: slices.Repeat([]string{"f"}, api.MaxNodes-1003)}}}}},
	} {
		s := Text(d)
		if got, at, e := Parse(s); s == "" || e != api.OK || at != 0 || !same(got, d) {
			t.Errorf("%d bytes, at %d, error %d", len(s), at, e)
		}
	}
	// The blanks around a text would not be read.
	x := Node(api.Doc{Chors: []api.Chor{{Id: "c", Items: []api.Item{{Kind: api.KCall, Id: "k", Called: "d", Maps: []api.Map{{Inner: "a ", Outer: "b"}}}}}}})
	if write.May(x) {
		t.Error("may")
	}
}

// TestWide has more than there may be in a document: Node tells all of it.
func TestWide(t *testing.T) {
	n := 5000
	d := api.Doc{
		Msgs: slices.Repeat([]api.Msg{{Id: "m"}}, n),
		Chors: slices.Repeat([]api.Chor{{
			Id: "c", Parts: slices.Repeat([]api.Part{{Id: "p"}}, n), Flows: slices.Repeat([]api.Flow{{Id: "f"}}, n), Seqs: slices.Repeat([]api.Seq{{Id: "q"}}, n),
			Items: []api.Item{{Kind: api.KTask, Parts: make([]string, n), Flows: make([]string, n)}, {Kind: api.KCall, Maps: make([]api.Map, n)}, {Kind: api.KSub, Items: slices.Repeat([]api.Item{{Kind: api.KXor}}, n), Seqs: make([]api.Seq, n)}},
		}}, 3),
	}
	if count, want := tree.Count(Node(d)), 1+n+3*(1+3*n+3+2*n+3*n+2*n); count != want {
		t.Errorf("%d, want %d", count, want)
	}
	if s := Text(d); s != "" {
		t.Errorf("%d bytes", len(s))
	}
	// So deep that calls may not be.
	l := []api.Item{{Kind: api.KEnd}}
	for range 2000000 {
		l = []api.Item{{Kind: api.KSub, Items: l}}
	}
	deep := api.Doc{Chors: []api.Chor{{Id: "c", Items: l}}}
	depth := 1
	for x := Node(deep); len(x.Kids) > 0; x = x.Kids[0] {
		depth++
	}
	if depth != 2000003 || Text(deep) != "" {
		t.Error(depth)
	}
}

// room is how many bytes of room something takes.
func room(do func()) uint64 {
	var ahead, behind runtime.MemStats
	runtime.ReadMemStats(&ahead)
	do()
	runtime.ReadMemStats(&behind)
	return behind.TotalAlloc - ahead.TotalAlloc
}

// TestEndless has lists that stand in themselves, or in many places: Text makes no more of them than there may be.
func TestEndless(t *testing.T) {
	self := []api.Item{{Kind: api.KSub, Id: "s"}, {Kind: api.KTask, Id: "t", Parts: make([]string, 100000)}}
	self[0].Items = self
	one := []api.Item{{Kind: api.KSub, Id: "s"}}
	one[0].Items = one
	two := []api.Item{{Kind: api.KSub, Id: "s"}, {Kind: api.KSub, Id: "t"}}
	two[0].Items, two[1].Items = two, two
	huge := []api.Item{{Kind: api.KTask, Id: "t", Parts: make([]string, 1000000)}, {Kind: api.KCall, Maps: make([]api.Map, 1000000)}}
	for _, l := range [][]api.Item{self, one, two, slices.Repeat(huge, 1000)} {
		d := api.Doc{Msgs: []api.Msg{{Id: "m"}}, Chors: []api.Chor{{Id: "c", Items: l}, {Id: "d", Items: l}}}
		var s string
		taken := room(func() { s = Text(d) })
		if s != "" || taken > 10*api.MaxNodes*1000 {
			t.Errorf("%q, %d taken", s, taken)
		}
	}
	chors := slices.Repeat([]api.Chor{{Id: "c", Parts: make([]api.Part, 1000000), Items: huge}}, 1000)
	if taken := room(func() { Text(api.Doc{Chors: chors}) }); taken > 10*api.MaxNodes*1000 {
		t.Errorf("%d taken", taken)
	}
	// Node has a limit, too: what it answers beyond it is nothing.
	for _, l := range [][]api.Item{one, two} {
		d := api.Doc{Chors: []api.Chor{{Id: "c", Items: l}}}
		for _, limit := range []int{1, 2, 3, 1000} {
			if x := made(d, limit); !reflect.DeepEqual(x, api.Node{}) {
				t.Errorf("%q", fmt.Sprint(x))
			}
		}
	}
	if x := made(sample(), tree.Count(Node(sample()))); !tree.Same(x, Node(sample())) {
		t.Errorf("%q", fmt.Sprint(x))
	}
	if x := made(sample(), tree.Count(Node(sample()))-1); !reflect.DeepEqual(x, api.Node{}) {
		t.Errorf("%q", fmt.Sprint(x))
	}
}

// TestUnchanged holds that what is handed in stays as it is, and what is answered too.
func TestUnchanged(t *testing.T) {
	x := all()
	d, e := Doc(x)
	again, _ := Doc(x)
	if e != api.OK || !reflect.DeepEqual(x, all()) {
		t.Errorf("changed: %v, error %d", x, e)
	}
	for _, p := range places(&x) {
		p.Text = "new"
		for i := range p.Attrs {
			p.Attrs[i] = api.Attr{Name: "new"}
		}
	}
	if !reflect.DeepEqual(d, again) {
		t.Errorf("%+v, %+v", d, again)
	}
	d = sample()
	first, second := Node(d), Node(d)
	if !reflect.DeepEqual(d, sample()) {
		t.Errorf("changed: %+v", d)
	}
	for _, p := range places(&first) {
		p.Name = "new"
		for i := range p.Attrs {
			p.Attrs[i] = api.Attr{Name: "new"}
		}
		// What is put behind one list is no other one's.
		p.Kids, p.Attrs = append(p.Kids, el("more")), append(p.Attrs, api.Attr{Name: "more"})
	}
	d.Chors[0].Items[0].Parts[0], d.Chors[0].Id, d.Msgs[0].Id = "new", "new", "new"
	if !tree.Same(second, Node(sample())) || tree.Same(second, Node(d)) {
		t.Errorf("%q", fmt.Sprint(second))
	}
}

// drawer draws documents.
type drawer struct {
	dice *rand.Rand
}

func (d *drawer) text() string {
	l := []string{"a", "b", "pa", "m.1", "a b", "<&>\"'", "\u00e9\U00010000", "t\n", "0"}
	return l[d.dice.Intn(len(l))]
}

// ref is a text that an element may have: one without blanks around it, or none.
func (d *drawer) ref() string {
	l := []string{"", "a", "pb", "a  b", "<&>]]>", "\u20ac"}
	return l[d.dice.Intn(len(l))]
}

func (d *drawer) name() string {
	if d.dice.Intn(2) == 0 {
		return ""
	}
	return d.text()
}

// few draws a list of few things.
func few[T any](d *drawer, one func() T) []T {
	var l []T
	for range d.dice.Intn(4) {
		l = append(l, one())
	}
	return l
}

func (d *drawer) seq() api.Seq {
	return api.Seq{Id: d.text(), From: d.text(), To: d.text()}
}

func (d *drawer) item(deep int) api.Item {
	i := api.Item{Kind: 1 + d.dice.Intn(api.KCall), Id: d.text()}
	switch i.Kind {
	case api.KTask:
		i.First, i.Loop, i.Parts, i.Flows = d.text(), d.dice.Intn(2) == 0, few(d, d.ref), few(d, d.ref)
	case api.KSub:
		if deep > 0 {
			i.Items = few(d, func() api.Item { return d.item(deep - 1) })
		}
		i.Seqs = few(d, d.seq)
	case api.KCall:
		i.Called, i.Maps = d.text(), few(d, func() api.Map { return api.Map{Inner: d.ref(), Outer: d.ref()} })
	}
	return i
}

func (d *drawer) chor() api.Chor {
	return api.Chor{
		Id:    d.text(),
		Parts: few(d, func() api.Part { return api.Part{Id: d.text(), Name: d.name()} }),
		Flows: few(d, func() api.Flow { return api.Flow{Id: d.text(), From: d.text(), To: d.text(), Msg: d.text()} }),
		Items: few(d, func() api.Item { return d.item(3) }),
		Seqs:  few(d, d.seq),
	}
}

func (d *drawer) doc() api.Doc {
	return api.Doc{
		Msgs:  few(d, func() api.Msg { return api.Msg{Id: d.text(), Name: d.name()} }),
		Chors: few(d, d.chor),
	}
}

// mix puts attributes and elements of one into another order, in which elements of the same list keep theirs, and names where they do not count.
func (d *drawer) mix(x *api.Node) {
	list := map[string]int{"message": 1, "choreography": 2, "participant": 3, "messageFlow": 4, "sequenceFlow": 5, "participantRef": 6, "messageFlowRef": 7, "innerParticipantRef": 8, "outerParticipantRef": 9}
	for range 2 * len(x.Kids) {
		i := d.dice.Intn(len(x.Kids)-1+1) - 1
		if i >= 0 && list[x.Kids[i].Name] != list[x.Kids[i+1].Name] {
			x.Kids[i], x.Kids[i+1] = x.Kids[i+1], x.Kids[i]
		}
	}
	f := forms()[x.Name]
	if !f.none && x.Name != "message" && x.Name != "participant" {
		x.Attrs = append(x.Attrs, api.Attr{Name: "name", Value: d.name()})
	}
	d.dice.Shuffle(len(x.Attrs), func(i, j int) { x.Attrs[i], x.Attrs[j] = x.Attrs[j], x.Attrs[i] })
	for i := range x.Kids {
		d.mix(&x.Kids[i])
	}
}

// spoil does something to one of an element's, which may be wrong.
func (d *drawer) spoil(x *api.Node) {
	l := places(x)
	p, q := l[d.dice.Intn(len(l))], l[d.dice.Intn(len(l))]
	attrs := []string{"id", "name", "sourceRef", "loopType", "calledChoreographyRef", "targetNamespace", "a"}
	switch d.dice.Intn(9) {
	case 0:
		p.Space = "u"
	case 1:
		p.Name = q.Name
	case 2:
		p.Text = "t"
	case 3:
		p.Kids = append(p.Kids, copied(*q))
	case 4:
		p.Attrs = append(p.Attrs, api.Attr{Name: attrs[d.dice.Intn(len(attrs))], Value: d.name()})
	case 5:
		if n := len(p.Attrs); n > 0 {
			k := d.dice.Intn(n)
			p.Attrs = slices.Delete(slices.Clone(p.Attrs), k, k+1)
		}
	case 6:
		if n := len(p.Attrs); n > 0 {
			p.Attrs[d.dice.Intn(n)].Value = ""
		}
	case 7:
		p.Name = "note"
	case 8:
		p.Kids = slices.Insert(slices.Clone(p.Kids), 0, copied(*q))
	}
}

// once tells whether no element has an attribute twice: of those that have, nothing is said.
func once(x api.Node) bool {
	seen := map[string]bool{}
	for _, a := range x.Attrs {
		if seen[a.Name] {
			return false
		}
		seen[a.Name] = true
	}
	return !slices.ContainsFunc(x.Kids, func(k api.Node) bool { return !once(k) })
}

func TestDrawnDocuments(t *testing.T) {
	d := drawer{dice: rand.New(rand.NewSource(8))}
	errs := map[api.Errno]int{}
	for range 2500 {
		want := d.doc()
		x := Node(want)
		if d, e := Doc(x); e != api.OK || !same(d, want) {
			t.Fatalf("%+v, error %d, want %+v", d, e, want)
		}
		s := Text(want)
		if s != write.Text(x) || s == "" {
			t.Fatalf("%q: %q", fmt.Sprint(x), s)
		}
		if d, at, e := Parse(s); e != api.OK || at != 0 || !same(d, want) || Text(d) != s {
			t.Fatalf("%+v, at %d, error %d, want %+v", d, at, e, want)
		}
		mixed := copied(x)
		d.mix(&mixed)
		is(t, mixed, want)
		for range 1 + d.dice.Intn(3) {
			d.spoil(&x)
		}
		if once(x) {
			errs[judged(t, x)]++
		}
		if t.Failed() {
			return
		}
	}
	if errs[api.OK] < 50 || errs[api.ErrForm] < 500 || errs[api.ErrAttr] < 100 {
		t.Error(errs)
	}
}
