package tree

import (
	"slices"

	"gangway/api"
)

// mayBe tells whether this is a tree that may be.
func (w *work) mayBe() bool {
	many := len(w.nodes)
	if many < 1 || many > api.MaxNodes || !w.isDir(root) || !w.hasNode(many-1) {
		return false
	}
	for _, n := range w.nodes {
		if !w.nodeMayBe(n) {
			return false
		}
	}
	return w.linksMayBe()
}

// nodeMayBe tells whether n may be one of the nodes, whatever its Links.
func (w *work) nodeMayBe(n api.Node) bool {
	foreign := n.Kind != api.NodeFile && len(n.Data) > 0 ||
		n.Kind != api.NodeDir && len(n.Names) > 0 ||
		n.Kind != api.NodeLink && n.Target != ""
	if foreign || !isTime(n.Time) {
		return false
	}
	switch n.Kind {
	case api.NodeFree:
		return n.Time == 0
	case api.NodeFile:
		return len(n.Data) <= api.MaxFile
	case api.NodeDir:
		return w.namesMayBe(n.Names)
	case api.NodeLink:
		return targetError(n.Target) == api.OK
	}
	return false
}

func (w *work) namesMayBe(names []api.Name) bool {
	if len(names) > api.MaxNames {
		return false
	}
	last := ""
	for _, n := range names {
		if n.Name <= last || Name(n.Name) != api.OK || !w.hasNode(n.Node) {
			return false
		}
		last = n.Name
	}
	return true
}

// linksMayBe tells whether all Links may be.
func (w *work) linksMayBe() bool {
	names := w.count(w.everywhere)
	for i, n := range w.nodes {
		if n.Links != names[i] || w.isDir(i) && n.Links > 1 {
			return false
		}
	}
	// No directory stands in two now, nor the root in any, so that a walk from the root down ends. The names that it does not come to are those in directories that are not reached.
	return slices.Equal(names, w.count(below{w, root}.walk))
}

func isTime(t int64) bool {
	return t >= 0 && t <= api.MaxClock
}

// targetError tells why s is no link's Target, or OK.
func targetError(s string) api.Errno {
	if s == "" || has(s, 0) {
		return api.ErrInval
	}
	if len(s) > api.MaxPath {
		return api.ErrNametool
	}
	return api.OK
}
