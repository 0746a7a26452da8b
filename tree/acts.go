package tree

import "gangway/api"

func (w *work) makeNode(p place, kind int, target string, now int64) (int, api.Errno) {
	if e := w.makeError(p, kind, target); e != api.OK {
		return 0, e
	}
	node := w.newNumber()
	if node == api.MaxNodes {
		return 0, api.ErrNospc
	}
	if node == len(w.nodes) {
		w.nodes = append(w.nodes, api.Node{})
	}
	w.nodes[node] = api.Node{Kind: kind, Target: target, Time: now}
	w.add(p, node, now)
	return node, api.OK
}

func (w *work) makeError(p place, kind int, target string) api.Errno {
	if !mayMake(kind, target) {
		return api.ErrForm
	}
	if e := w.placeError(p); e != api.OK {
		return e
	}
	if kind == api.NodeLink {
		if e := targetError(target); e != api.OK {
			return e
		}
	}
	return w.addError(p)
}

func mayMake(kind int, target string) bool {
	switch kind {
	case api.NodeFile, api.NodeDir:
		return target == ""
	case api.NodeLink:
		return true
	}
	return false
}

// newNumber tells the least free node's, or how many nodes there are.
func (w *work) newNumber() int {
	for i := range w.nodes {
		if !w.hasNode(i) {
			return i
		}
	}
	return len(w.nodes)
}

func (w *work) link(node int, p place, now int64) api.Errno {
	if w.isDir(node) {
		return api.ErrPerm
	}
	if e := w.placeError(p); e != api.OK {
		return e
	}
	if e := w.addError(p); e != api.OK {
		return e
	}
	w.add(p, node, now)
	return api.OK
}

func (w *work) unlink(p place, isdir bool, now int64) api.Errno {
	node, e := w.find(p)
	if e != api.OK {
		return e
	}
	if e := w.removeError(node, isdir); e != api.OK {
		return e
	}
	w.remove(p, now)
	return api.OK
}

// free makes node free. The root, too, has Links. Free ones at the end go.
func (w *work) free(node int) api.Errno {
	if !w.isGone(node) {
		return api.ErrPerm
	}
	w.nodes[node] = api.Node{}
	for last := len(w.nodes) - 1; !w.hasNode(last); last-- {
		w.nodes = w.nodes[:last]
	}
	return api.OK
}

func (w *work) rename(from, to place, now int64) api.Errno {
	node, e := w.find(from)
	if e != api.OK {
		return e
	}
	if e := w.placeError(to); e != api.OK {
		return e
	}
	if w.isGone(to.dir) {
		return api.ErrNoent
	}
	there, e := w.find(to)
	if e == api.OK && there == node {
		return api.OK
	}
	if w.isWithin(to.dir, node) {
		return api.ErrInval
	}
	if e := w.clear(to, from.dir, w.isDir(node), now); e != api.OK {
		return e
	}
	w.remove(from, now)
	w.add(to, node, now)
	return api.OK
}

// clear sees to it that a name that goes out of the directory from, and is for a directory or is not, can stand at p.
func (w *work) clear(p place, from int, isdir bool, now int64) api.Errno {
	if _, found := w.search(p); found {
		return w.unlink(p, isdir, now)
	}
	if p.dir != from && w.isFull(p.dir) {
		return api.ErrNospc
	}
	return api.OK
}

// isWithin tells whether dir is node or below it.
func (w *work) isWithin(dir, node int) bool {
	_, found := seek(dir, below{w, node}.walk)
	return found || dir == node
}
