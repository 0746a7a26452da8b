package tree

import "gangway/api"

// visit is what is done at each name that a walk comes to; dir is the directory in which it stands.
type visit func(dir int, n api.Name)

// walk goes to names, one by one.
type walk func(at visit)

// everywhere is the walk to all names that there are.
func (w *work) everywhere(at visit) {
	for dir, node := range w.nodes {
		for _, n := range node.Names {
			at(dir, n)
		}
	}
}

// below is a directory, with the walk to its names and those of all directories below it.
type below struct {
	*work
	dir int
}

func (b below) walk(at visit) {
	for _, n := range b.nodes[b.dir].Names {
		at(b.dir, n)
		below{b.work, n.Node}.walk(at)
	}
}

// counts tells of each node how many of its names a walk came to.
type counts []int

func (c counts) count(_ int, n api.Name) {
	c[n.Node]++
}

// count tells the counts of a walk. The root counts as if it had one name: any that it has is one too many.
func (w *work) count(names walk) counts {
	c := make(counts, len(w.nodes))
	c[root]++
	names(c.count)
	return c
}

// seeker looks for a name of a node, and tells the directory in which it stands.
type seeker struct {
	node  int
	dir   int
	found bool
}

func (s *seeker) look(dir int, n api.Name) {
	if n.Node == s.node {
		s.dir, s.found = dir, true
	}
}

// seek looks for a name of node on a walk.
func seek(node int, names walk) (int, bool) {
	s := seeker{node: node}
	names(s.look)
	return s.dir, s.found
}
