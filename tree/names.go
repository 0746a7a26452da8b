package tree

import (
	"cmp"
	"slices"

	"gangway/api"
)

// place is where a name stands, or may stand.
type place struct {
	dir  int
	name string
}

func (w *work) find(p place) (int, api.Errno) {
	if e := w.placeError(p); e != api.OK {
		return 0, e
	}
	i, found := w.search(p)
	if !found {
		return 0, api.ErrNoent
	}
	return w.nodes[p.dir].Names[i].Node, api.OK
}

// placeError tells why no name ever stands at p, or OK.
func (w *work) placeError(p place) api.Errno {
	if !w.isDir(p.dir) {
		return api.ErrNotdir
	}
	return Name(p.name)
}

// search tells how many of the directory's names stand ahead of p's, and whether that is there.
func (w *work) search(p place) (int, bool) {
	return slices.BinarySearchFunc(w.nodes[p.dir].Names, p.name, compareName)
}

func compareName(n api.Name, s string) int {
	return cmp.Compare(n.Name, s)
}

func (w *work) parent(dir int) (int, api.Errno) {
	if !w.isDir(dir) {
		return 0, api.ErrNotdir
	}
	if dir == root {
		return root, api.OK
	}
	up, found := seek(dir, w.everywhere)
	if !found {
		return 0, api.ErrNoent
	}
	return up, api.OK
}

// addError tells why no name can be added at p, where one may stand, or OK.
func (w *work) addError(p place) api.Errno {
	if w.isGone(p.dir) {
		return api.ErrNoent
	}
	if _, found := w.search(p); found {
		return api.ErrExist
	}
	if w.isFull(p.dir) {
		return api.ErrNospc
	}
	return api.OK
}

func (w *work) isGone(node int) bool {
	return w.nodes[node].Links == 0
}

func (w *work) isFull(dir int) bool {
	return len(w.nodes[dir].Names) == api.MaxNames
}

// add gives node the name at p.
func (w *work) add(p place, node int, now int64) {
	i, _ := w.search(p)
	d := &w.nodes[p.dir]
	d.Names = slices.Insert(d.Names, i, api.Name{Name: p.name, Node: node})
	d.Time = now
	w.nodes[node].Links++
}

// remove takes the name at p away, which is there.
func (w *work) remove(p place, now int64) {
	i, _ := w.search(p)
	d := &w.nodes[p.dir]
	w.nodes[d.Names[i].Node].Links--
	d.Names = slices.Concat(d.Names[:i], d.Names[i+1:])
	d.Time = now
}

// removeError tells why node may not lose a name to one that is for a directory, or is not, or OK.
func (w *work) removeError(node int, isdir bool) api.Errno {
	switch {
	case isdir && !w.isDir(node):
		return api.ErrNotdir
	case isdir && len(w.nodes[node].Names) > 0:
		return api.ErrNotempty
	case !isdir && w.isDir(node):
		return api.ErrIsdir
	}
	return api.OK
}
