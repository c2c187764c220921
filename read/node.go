package read

import (
	"slices"

	"galliard/api"
	"galliard/write"
)

// most is how many elements there may be in 2^31 - 1 bytes. More are not promised; and items may stand in themselves.
const most = (1<<31 - 1) / 96

// Text is a document's text; "": it may not be written.
func Text(d api.Doc) string {
	return write.Text(made(d, api.MaxNodes))
}

// Node is a document's element: messages, then choreographies: participants, message flows, items, what follows what.
func Node(d api.Doc) api.Node {
	return made(d, most)
}

// made is a document's element; zero: there are more than so many in it.
func made(d api.Doc, limit int) api.Node {
	m := maker{left: limit}
	x := m.document(d)
	for len(m.open) > 0 && m.left >= 0 {
		last := len(m.open) - 1
		o := m.open[last]
		m.open = m.open[:last]
		m.steps(o.x, o.items, o.seqs)
	}
	if m.left < 0 {
		return api.Node{}
	}
	return x
}

// maker makes elements: how many more there may be, and which still have nothing within them. (None is made by a call within another one's, for items that are handed in may be deeper than calls may.)
type maker struct {
	left int
	open []open
}

// open is an element, and what is to stand in it.
type open struct {
	x     *api.Node
	items []api.Item
	seqs  []api.Seq
}

// room tells whether so many elements more may be, and makes room for them in one.
func (m *maker) room(x *api.Node, more int) bool {
	m.left -= more
	if m.left < 0 {
		return false
	}
	x.Kids = slices.Grow(x.Kids, more)
	return true
}

// document makes the element that all stand in.
func (m *maker) document(d api.Doc) api.Node {
	m.left--
	x := element("definitions")
	if !m.room(&x, len(d.Msgs)+len(d.Chors)) {
		return x
	}
	for _, g := range d.Msgs {
		x.Kids = append(x.Kids, named("message", g.Id, g.Name))
	}
	for _, c := range d.Chors {
		x.Kids = append(x.Kids, m.choreography(c))
	}
	for i, c := range d.Chors {
		m.open = append(m.open, open{x: &x.Kids[len(d.Msgs)+i], items: c.Items, seqs: c.Seqs})
	}
	return x
}

// choreography makes one, but for its items and what follows what.
func (m *maker) choreography(c api.Chor) api.Node {
	x := element("choreography", api.Attr{Name: "id", Value: c.Id})
	if !m.room(&x, len(c.Parts)+len(c.Flows)) {
		return x
	}
	for _, p := range c.Parts {
		x.Kids = append(x.Kids, named("participant", p.Id, p.Name))
	}
	for _, f := range c.Flows {
		x.Kids = append(x.Kids, element("messageFlow",
			api.Attr{Name: "id", Value: f.Id},
			api.Attr{Name: "sourceRef", Value: f.From},
			api.Attr{Name: "targetRef", Value: f.To},
			api.Attr{Name: "messageRef", Value: f.Msg}))
	}
	return x
}

// steps puts items and what follows what into an element.
func (m *maker) steps(x *api.Node, items []api.Item, seqs []api.Seq) {
	if !m.room(x, len(items)+len(seqs)) {
		return
	}
	for _, i := range items {
		x.Kids = append(x.Kids, m.item(i))
		if i.Kind == api.KSub {
			m.open = append(m.open, open{x: &x.Kids[len(x.Kids)-1], items: i.Items, seqs: i.Seqs})
		}
	}
	for _, s := range seqs {
		x.Kids = append(x.Kids, element("sequenceFlow",
			api.Attr{Name: "id", Value: s.Id},
			api.Attr{Name: "sourceRef", Value: s.From},
			api.Attr{Name: "targetRef", Value: s.To}))
	}
}

// item makes one, but for its items and what follows what. (One of no kind has no name, so it may not be written.)
func (m *maker) item(i api.Item) api.Node {
	x := element(nameOf(i.Kind), api.Attr{Name: "id", Value: i.Id})
	switch i.Kind {
	case api.KTask:
		m.task(&x, i)
	case api.KCall:
		m.call(&x, i)
	}
	return x
}

// task tells of one who begins, whether it may be done again, and its participants and message flows.
func (m *maker) task(x *api.Node, i api.Item) {
	x.Attrs = append(x.Attrs, api.Attr{Name: "initiatingParticipantRef", Value: i.First})
	if i.Loop {
		x.Attrs = append(x.Attrs, api.Attr{Name: "loopType", Value: "Standard"})
	}
	if !m.room(x, len(i.Parts)+len(i.Flows)) {
		return
	}
	for _, s := range i.Parts {
		x.Kids = append(x.Kids, text("participantRef", s))
	}
	for _, s := range i.Flows {
		x.Kids = append(x.Kids, text("messageFlowRef", s))
	}
}

// call tells of one what it calls, and which participants are which.
func (m *maker) call(x *api.Node, i api.Item) {
	x.Attrs = append(x.Attrs, api.Attr{Name: "calledChoreographyRef", Value: i.Called})
	if !m.room(x, len(i.Maps)) {
		return
	}
	for _, p := range i.Maps {
		a := element("participantAssociation")
		if !m.room(&a, 2) {
			return
		}
		a.Kids = append(a.Kids, text("innerParticipantRef", p.Inner), text("outerParticipantRef", p.Outer))
		x.Kids = append(x.Kids, a)
	}
}

// element makes one of attributes; text, one of a text.
func element(name string, attrs ...api.Attr) api.Node {
	return api.Node{Space: api.BpmnSpace, Name: name, Attrs: attrs}
}

func text(name, s string) api.Node {
	return api.Node{Space: api.BpmnSpace, Name: name, Text: s}
}

// named makes one that has a name, if that is not empty.
func named(kind, id, name string) api.Node {
	x := element(kind, api.Attr{Name: "id", Value: id})
	if name != "" {
		x.Attrs = append(x.Attrs, api.Attr{Name: "name", Value: name})
	}
	return x
}
