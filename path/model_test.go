package path

import (
	"slices"
	"strings"

	"gangway/api"
	"gangway/tree"
)

// The model goes by recursion: a link is resolved by itself, and what stands behind it goes on from there.

// journey is what the model keeps.
type journey struct {
	t      api.Tree
	first  int
	follow bool
	must   bool
	links  int
}

// reason is an error, and whether there is reason for it.
type reason struct {
	holds bool
	e     api.Errno
}

func firstOf(l ...reason) api.Errno {
	for _, r := range l {
		if r.holds {
			return r.e
		}
	}
	return api.OK
}

func resolveModel(t api.Tree, dir int, s string, follow bool) (api.Where, api.Errno) {
	bad := tree.Check(t) != api.OK || dir < 0 || dir >= len(t.Nodes) || t.Nodes[dir].Kind == api.NodeFree
	if bad {
		return api.Where{}, api.ErrForm
	}
	e := firstOf(
		reason{t.Nodes[dir].Kind != api.NodeDir, api.ErrNotdir},
		reason{s == "", api.ErrNoent},
		reason{len(s) > 512, api.ErrNametool},
		reason{strings.Contains(s, "\x00"), api.ErrInval},
		reason{strings.HasPrefix(s, "/"), api.ErrNotcap},
	)
	if e != api.OK {
		return api.Where{}, e
	}
	j := journey{t: t, first: dir, follow: follow, must: mustModel(s)}
	w, e := j.lead(dir, s, true)
	if e == api.OK && j.must && w.Node != -1 && t.Nodes[w.Node].Kind != api.NodeDir {
		e = api.ErrNotdir
	}
	if e != api.OK {
		return api.Where{}, e
	}
	w.Must = j.must
	return w, api.OK
}

func mustModel(s string) bool {
	return s[len(s)-1] == '/' || slices.Contains([]string{".", ".."}, partsOf(s)[len(partsOf(s))-1])
}

func partsOf(s string) []string {
	return slices.DeleteFunc(strings.Split(s, "/"), func(p string) bool { return p == "" })
}

// lead goes the path s from dir on; last tells whether nothing stands behind it.
func (j *journey) lead(dir int, s string, last bool) (api.Where, api.Errno) {
	at := api.Where{Dir: dir, Node: dir}
	parts := partsOf(s)
	for i, p := range parts {
		var e api.Errno
		at, e = j.part(at.Node, p, last && i == len(parts)-1)
		if e != api.OK {
			return at, e
		}
	}
	return at, api.OK
}

func (j *journey) part(dir int, p string, last bool) (api.Where, api.Errno) {
	if p == "." {
		return api.Where{Dir: dir, Node: dir}, api.OK
	}
	if p == ".." {
		return j.parent(dir)
	}
	if len(p) > 64 {
		return api.Where{}, api.ErrNametool
	}
	node := -1
	for _, n := range j.t.Nodes[dir].Names {
		if n.Name == p {
			node = n.Node
		}
	}
	if node != -1 && j.t.Nodes[node].Kind == api.NodeLink && (!last || j.follow || j.must) {
		return j.link(dir, j.t.Nodes[node].Target, last)
	}
	e := firstOf(
		reason{!last && node == -1, api.ErrNoent},
		reason{!last && node != -1 && j.t.Nodes[node].Kind != api.NodeDir, api.ErrNotdir},
	)
	return api.Where{Dir: dir, Name: p, Node: node}, e
}

func (j *journey) parent(dir int) (api.Where, api.Errno) {
	if dir == j.first {
		return api.Where{}, api.ErrNotcap
	}
	for i, n := range j.t.Nodes {
		for _, x := range n.Names {
			if x.Node == dir {
				return api.Where{Dir: i, Node: i}, api.OK
			}
		}
	}
	return api.Where{}, api.ErrNoent
}

func (j *journey) link(dir int, target string, last bool) (api.Where, api.Errno) {
	j.links++
	if e := firstOf(reason{j.links > 32, api.ErrLoop}, reason{target[0] == '/', api.ErrNotcap}); e != api.OK {
		return api.Where{}, e
	}
	if last && mustModel(target) {
		j.must = true
	}
	return j.lead(dir, target, last)
}
