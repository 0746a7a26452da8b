package tree

import (
	"bytes"
	"slices"

	"gangway/api"
)

// work is a tree as it is asked and worked on. What changes it asks for all errors first, and changes nothing beside one.
type work struct {
	nodes []api.Node
}

// lookAt tells t itself, to be asked alone, and ErrForm, if it or one of the nodes' numbers may not be.
func lookAt(t api.Tree, numbers ...int) (*work, api.Errno) {
	w := &work{t.Nodes}
	if !w.mayBe() || !w.hasNodes(numbers) {
		return nil, api.ErrForm
	}
	return w, api.OK
}

// workOn tells a copy of t, and ErrForm, if t, the time or one of the nodes' numbers may not be. Of a t that may not be there is no copy; else there is one beside ErrForm, too.
func workOn(t api.Tree, now int64, numbers ...int) (*work, api.Errno) {
	w, e := lookAt(t)
	if e != api.OK {
		return &work{}, e
	}
	if !isTime(now) || !w.hasNodes(numbers) {
		e = api.ErrForm
	}
	return w.copied(), e
}

func (w *work) copied() *work {
	c := &work{slices.Clone(w.nodes)}
	for i, n := range w.nodes {
		c.nodes[i].Data = bytes.Clone(n.Data)
		c.nodes[i].Names = slices.Clone(n.Names)
	}
	return c
}

func (w *work) tree() api.Tree {
	return api.Tree{Nodes: w.nodes}
}

func (w *work) isDir(node int) bool {
	return w.nodes[node].Kind == api.NodeDir
}

func (w *work) hasNodes(numbers []int) bool {
	for _, n := range numbers {
		if !w.hasNode(n) {
			return false
		}
	}
	return true
}

// hasNode tells whether n is the number of a node that is not free.
func (w *work) hasNode(n int) bool {
	return n >= 0 && n < len(w.nodes) && w.nodes[n].Kind != api.NodeFree
}
