package path

import (
	"slices"
	"strings"

	"gangway/api"
	"gangway/tree"
)

// walk goes from part to part.
type walk struct {
	tree   api.Tree
	parts  []string // a stack: the next one is on top
	first  int      // the directory that is not left
	dir    int      // the one in which the next part stands
	links  int      // how many have been gone through
	follow bool
	must   bool
	where  api.Where // what the last part led to
}

// step is what is done with a part.
type step func(part string) api.Errno

// push lays the parts of s on top.
func (w *walk) push(s string) {
	parts := strings.Split(s, "/")
	for _, p := range slices.Backward(parts) {
		if p != "" {
			w.parts = append(w.parts, p)
		}
	}
}

func (w *walk) pop() string {
	top := len(w.parts) - 1
	p := w.parts[top]
	w.parts = w.parts[:top]
	return p
}

// end goes all the way, and tells where it ends.
func (w *walk) end() (api.Where, api.Errno) {
	for len(w.parts) > 0 {
		p := w.pop()
		if e := w.step(p)(p); e != api.OK {
			return api.Where{}, e
		}
	}
	w.where.Must = w.must
	if w.must && w.where.Node >= 0 && !w.is(w.where.Node, api.NodeDir) {
		return api.Where{}, api.ErrNotdir
	}
	return w.where, api.OK
}

// step tells what is to be done with a part that has been taken from the stack.
func (w *walk) step(part string) step {
	switch {
	case part == ".":
		return w.stay
	case part == "..":
		return w.up
	case len(w.parts) > 0:
		return w.enter
	}
	return w.arrive
}

func (w *walk) stay(string) api.Errno {
	w.where = api.Where{Dir: w.dir, Node: w.dir}
	return api.OK
}

func (w *walk) up(part string) api.Errno {
	if w.dir == w.first {
		return api.ErrNotcap
	}
	dir, e := tree.Parent(w.tree, w.dir)
	if e != api.OK {
		return e
	}
	w.dir = dir
	return w.stay(part)
}

// enter goes into a directory, or through a link.
func (w *walk) enter(part string) api.Errno {
	node, e := tree.Find(w.tree, w.dir, part)
	if e != api.OK {
		return e
	}
	switch {
	case w.is(node, api.NodeLink):
		return w.through(node)
	case w.is(node, api.NodeDir):
		w.dir = node
		return api.OK
	}
	return api.ErrNotdir
}

// arrive comes to the last part, unless there is a link that is to be gone through.
func (w *walk) arrive(part string) api.Errno {
	node, e := tree.Find(w.tree, w.dir, part)
	switch {
	case e == api.ErrNoent:
		node = -1
	case e != api.OK:
		return e
	case w.follow && w.is(node, api.NodeLink):
		// What must be a directory behind the link must be one behind the whole path.
		w.must = w.must || must(w.tree.Nodes[node].Target)
		return w.through(node)
	}
	w.where = api.Where{Dir: w.dir, Name: part, Node: node}
	return api.OK
}

// through lays the parts of a link in its place.
func (w *walk) through(link int) api.Errno {
	if w.links == api.MaxLinks {
		return api.ErrLoop
	}
	w.links++
	target := w.tree.Nodes[link].Target
	if fromRoot(target) {
		return api.ErrNotcap
	}
	w.push(target)
	return api.OK
}

func (w *walk) is(node, kind int) bool {
	return w.tree.Nodes[node].Kind == kind
}
