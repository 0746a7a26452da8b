package tree

import (
	"maps"
	"math"
	"slices"
	"strings"

	"gangway/api"
)

// The model keeps what the chapter speaks of apart from how a tree lies: which nodes there are, and which name stands where. How often a node stands anywhere is counted anew each time.

// thing is a node of the model.
type thing struct {
	kind   int
	data   string
	target string
	time   int64
}

// spot is where a name stands.
type spot struct {
	dir  int
	name string
}

type model struct {
	things map[int]thing
	names  map[spot]int
}

func newModel() model {
	return model{things: map[int]thing{0: {kind: api.NodeDir}}, names: map[spot]int{}}
}

func (m model) copied() model {
	return model{things: maps.Clone(m.things), names: maps.Clone(m.names)}
}

// modelOf reads a tree that may be.
func modelOf(t api.Tree) model {
	m := model{things: map[int]thing{}, names: map[spot]int{}}
	for i, n := range t.Nodes {
		if n.Kind != api.NodeFree {
			m.things[i] = thing{n.Kind, string(n.Data), n.Target, n.Time}
		}
		for _, x := range n.Names {
			m.names[spot{i, x.Name}] = x.Node
		}
	}
	return m
}

func (m model) links(node int) int {
	n := 0
	if node == 0 {
		n = 1
	}
	for _, x := range m.names {
		if x == node {
			n++
		}
	}
	return n
}

func (m model) namesOf(dir int) []string {
	var l []string
	for s := range m.names {
		if s.dir == dir {
			l = append(l, s.name)
		}
	}
	slices.Sort(l)
	return l
}

// within tells whether dir is node or below it.
func (m model) within(dir, node int) bool {
	for range len(m.things) {
		if dir == node {
			return true
		}
		for s, x := range m.names {
			if x == dir {
				dir = s.dir
				break
			}
		}
	}
	return false
}

func (m model) tree() api.Tree {
	last := slices.Max(slices.Collect(maps.Keys(m.things)))
	t := api.Tree{Nodes: make([]api.Node, last+1)}
	for i, x := range m.things {
		n := api.Node{Kind: x.kind, Data: []byte(x.data), Target: x.target, Time: x.time, Links: m.links(i)}
		for _, s := range m.namesOf(i) {
			n.Names = append(n.Names, api.Name{Name: s, Node: m.names[spot{i, s}]})
		}
		t.Nodes[i] = n
	}
	return t
}

// call is one of the package's, with all that it may be handed; what it does not take is not asked.
type call struct {
	name      string
	node, dir int
	s         string
	to        int
	s2        string
	kind      int
	target    string
	isdir     bool
	at, n     int
	b         string
	now       int64
}

// told is what a call tells: a tree, a number, bytes, an error.
type told struct {
	tree   api.Tree
	number int
	bytes  string
	e      api.Errno
}

// real asks the package.
func (c call) real(t api.Tree) told {
	var r told
	switch c.name {
	case "find":
		r.number, r.e = Find(t, c.dir, c.s)
	case "parent":
		r.number, r.e = Parent(t, c.dir)
	case "make":
		r.tree, r.number, r.e = Make(t, c.dir, c.s, c.kind, c.target, c.now)
	case "link":
		r.tree, r.e = Link(t, c.node, c.dir, c.s, c.now)
	case "unlink":
		r.tree, r.e = Unlink(t, c.dir, c.s, c.isdir, c.now)
	case "free":
		r.tree, r.e = Free(t, c.node)
	case "rename":
		r.tree, r.e = Rename(t, c.dir, c.s, c.to, c.s2, c.now)
	case "read":
		b, e := Read(t, c.node, c.at, c.n)
		r.bytes, r.e = string(b), e
	case "write":
		r.tree, r.e = Write(t, c.node, c.at, []byte(c.b), c.now)
	case "cut":
		r.tree, r.e = Cut(t, c.node, c.n, c.now)
	}
	return r
}

// reason is an error, and whether there is reason for it.
type reason struct {
	holds bool
	e     api.Errno
}

func first(l ...[]reason) api.Errno {
	for _, r := range slices.Concat(l...) {
		if r.holds {
			return r.e
		}
	}
	return api.OK
}

func badTime(t int64) bool { return t < 0 || t > 1<<50 }

func badName(s string) []reason {
	return []reason{
		{s == "" || s == "." || s == ".." || strings.Contains(s, "\x00") || strings.Contains(s, "/"), api.ErrInval},
		{len(s) > 64, api.ErrNametool},
	}
}

func (m model) none(node int) bool {
	_, ok := m.things[node]
	return !ok
}

func (m model) has(dir int, s string) bool {
	_, ok := m.names[spot{dir, s}]
	return ok
}

func (m model) isDir(node int) bool { return m.things[node].kind == api.NodeDir }

func (m model) notdir(dir int) []reason {
	return []reason{{!m.isDir(dir), api.ErrNotdir}}
}

func (m model) finds(dir int, s string) []reason {
	return slices.Concat(m.notdir(dir), badName(s), []reason{{!m.has(dir, s), api.ErrNoent}})
}

// goes: of a name that is to go.
func (m model) goes(node int, isdir bool) []reason {
	return []reason{
		{isdir && !m.isDir(node), api.ErrNotdir},
		{isdir && len(m.namesOf(node)) > 0, api.ErrNotempty},
		{!isdir && m.isDir(node), api.ErrIsdir},
	}
}

func (m model) noFile(node int, numbers ...int) []reason {
	return []reason{
		{m.isDir(node), api.ErrIsdir},
		{m.things[node].kind == api.NodeLink, api.ErrInval},
		{slices.Min(append(numbers, 0)) < 0, api.ErrInval},
	}
}

// ahead: what is asked ahead of all.
func (m model) ahead(c call) []reason {
	l := []reason{}
	switch c.name {
	case "link":
		l = append(l, reason{m.none(c.node) || m.none(c.dir), api.ErrForm})
	case "rename":
		l = append(l, reason{m.none(c.dir) || m.none(c.to), api.ErrForm})
	case "find", "parent", "make", "unlink":
		l = append(l, reason{m.none(c.dir), api.ErrForm})
	default:
		l = append(l, reason{m.none(c.node), api.ErrForm})
	}
	switch c.name {
	case "find", "parent", "free", "read":
	default:
		l = append(l, reason{badTime(c.now), api.ErrForm})
	}
	return l
}

// does does a call to the model, which stays as it is, and tells what is told.
func (m model) does(c call) told {
	e := first(m.ahead(c), m.reasons(c))
	if e != api.OK {
		r := told{e: e}
		if m.changes(c) {
			r.tree = m.tree()
		}
		return r
	}
	after := m.copied()
	r := after.act(c)
	if m.changes(c) {
		r.tree = after.tree()
	}
	return r
}

func (m model) changes(c call) bool {
	return c.name != "find" && c.name != "parent" && c.name != "read"
}

func (m model) newNumber() int {
	for i := 0; ; i++ {
		if m.none(i) {
			return i
		}
	}
}

func (m model) reasons(c call) []reason {
	switch c.name {
	case "find":
		return m.finds(c.dir, c.s)
	case "parent":
		return append(m.notdir(c.dir), reason{m.links(c.dir) == 0, api.ErrNoent})
	case "make":
		link := c.kind == api.NodeLink
		return slices.Concat(
			[]reason{{c.kind < 1 || c.kind > 3, api.ErrForm}, {!link && c.target != "", api.ErrForm}},
			m.notdir(c.dir), badName(c.s),
			[]reason{
				{link && (c.target == "" || strings.Contains(c.target, "\x00")), api.ErrInval},
				{link && len(c.target) > 512, api.ErrNametool},
				{m.links(c.dir) == 0, api.ErrNoent},
				{m.has(c.dir, c.s), api.ErrExist},
				{len(m.namesOf(c.dir)) == 64, api.ErrNospc},
				{len(m.things) == 64, api.ErrNospc},
			})
	case "link":
		return slices.Concat([]reason{{m.isDir(c.node), api.ErrPerm}}, m.notdir(c.dir), badName(c.s),
			[]reason{
				{m.links(c.dir) == 0, api.ErrNoent},
				{m.has(c.dir, c.s), api.ErrExist},
				{len(m.namesOf(c.dir)) == 64, api.ErrNospc},
			})
	case "unlink":
		return append(m.finds(c.dir, c.s), m.goes(m.names[spot{c.dir, c.s}], c.isdir)...)
	case "free":
		return []reason{{c.node == 0 || m.links(c.node) > 0, api.ErrPerm}}
	case "rename":
		return m.renames(c)
	case "read":
		return m.noFile(c.node, c.at, c.n)
	case "write":
		return append(m.noFile(c.node, c.at), reason{c.at > 16384 || c.at+len(c.b) > 16384, api.ErrFbig})
	case "cut":
		return append(m.noFile(c.node, c.n), reason{c.n > 16384, api.ErrFbig})
	}
	return nil
}

func (m model) renames(c call) []reason {
	node := m.names[spot{c.dir, c.s}]
	l := slices.Concat(m.finds(c.dir, c.s), m.notdir(c.to), badName(c.s2), []reason{{m.links(c.to) == 0, api.ErrNoent}})
	if m.same(c) {
		return l
	}
	l = append(l, reason{m.isDir(node) && m.within(c.to, node), api.ErrInval})
	if m.has(c.to, c.s2) {
		return append(l, m.goes(m.names[spot{c.to, c.s2}], m.isDir(node))...)
	}
	return append(l, reason{len(m.namesOf(c.to)) == 64 && c.dir != c.to, api.ErrNospc})
}

// same: both names of a rename are the same node's.
func (m model) same(c call) bool {
	return m.has(c.dir, c.s) && m.has(c.to, c.s2) && m.names[spot{c.dir, c.s}] == m.names[spot{c.to, c.s2}]
}

func (m model) touch(node int, now int64) {
	x := m.things[node]
	x.time = now
	m.things[node] = x
}

// act does a call that has no error.
func (m model) act(c call) told {
	at := spot{c.dir, c.s}
	switch c.name {
	case "find":
		return told{number: m.names[at]}
	case "parent":
		for s, x := range m.names {
			if x == c.dir {
				return told{number: s.dir}
			}
		}
	case "make":
		n := m.newNumber()
		m.things[n] = thing{kind: c.kind, target: c.target, time: c.now}
		m.names[at] = n
		m.touch(c.dir, c.now)
		return told{number: n}
	case "link":
		m.names[at] = c.node
		m.touch(c.dir, c.now)
	case "unlink":
		delete(m.names, at)
		m.touch(c.dir, c.now)
	case "free":
		delete(m.things, c.node)
	case "rename":
		if !m.same(c) {
			m.names[spot{c.to, c.s2}] = m.names[at]
			delete(m.names, at)
			m.touch(c.dir, c.now)
			m.touch(c.to, c.now)
		}
	case "read":
		data := m.things[c.node].data
		from := min(c.at, len(data))
		to := len(data)
		if c.n < to-from {
			to = from + c.n
		}
		return told{bytes: data[from:to]}
	case "write":
		if c.b != "" {
			x := m.things[c.node]
			x.data += strings.Repeat("\x00", max(0, c.at-len(x.data)))
			rest := x.data[min(len(x.data), c.at+len(c.b)):]
			x.data = x.data[:c.at] + c.b + rest
			x.time = c.now
			m.things[c.node] = x
		}
	case "cut":
		x := m.things[c.node]
		x.data = (x.data + strings.Repeat("\x00", max(0, c.n-len(x.data))))[:c.n]
		x.time = c.now
		m.things[c.node] = x
	}
	return told{}
}

// mayBeModel asks the chapter's words about a tree, one after the other.
func mayBeModel(t api.Tree) bool {
	if len(t.Nodes) < 1 || len(t.Nodes) > 64 || t.Nodes[len(t.Nodes)-1].Kind == api.NodeFree {
		return false
	}
	stands := map[int]int{}
	for _, n := range t.Nodes {
		if !mayBeNode(n) {
			return false
		}
		for i, x := range n.Names {
			if first(badName(x.Name)) != api.OK || x.Node < 1 || x.Node >= len(t.Nodes) || t.Nodes[x.Node].Kind == api.NodeFree {
				return false
			}
			for _, y := range n.Names[i+1:] {
				if x.Name >= y.Name {
					return false
				}
			}
			stands[x.Node]++
		}
	}
	if t.Nodes[0].Kind != api.NodeDir || t.Nodes[0].Links != 1 {
		return false
	}
	reached := map[int]int{0: 1}
	for range len(t.Nodes) {
		for dir := range maps.Clone(reached) {
			for _, x := range t.Nodes[dir].Names {
				reached[x.Node] = 1
			}
		}
	}
	for i, n := range t.Nodes[1:] {
		if n.Links != stands[i+1] {
			return false
		}
		if n.Kind == api.NodeDir && (n.Links > 1 || n.Links == 0 && len(n.Names) > 0 || n.Links == 1 && reached[i+1] == 0) {
			return false
		}
	}
	return true
}

func mayBeNode(n api.Node) bool {
	if badTime(n.Time) {
		return false
	}
	noData, noNames, noTarget := len(n.Data) == 0, len(n.Names) == 0, n.Target == ""
	switch n.Kind {
	case api.NodeFree:
		return noData && noNames && noTarget && n.Links == 0 && n.Time == 0
	case api.NodeFile:
		return noNames && noTarget && len(n.Data) <= 16384
	case api.NodeDir:
		return noData && noTarget && len(n.Names) <= 64
	case api.NodeLink:
		return noData && noNames && len(n.Target) >= 1 && len(n.Target) <= 512 && !strings.Contains(n.Target, "\x00")
	}
	return false
}

// farNumbers are numbers far from all that may be.
func farNumbers() []int {
	return []int{math.MinInt, math.MinInt32, -64, -1, 64, 65, 1 << 16, math.MaxInt32, 1 << 50, 1<<50 + 1, 1 << 62, math.MaxInt - 1, math.MaxInt}
}
