package tree

import (
	"fmt"
	"math"
	"math/rand"
	"slices"
	"strings"
	"testing"

	"gangway/api"
)

// fileNames are n names by rising names, all of node.
func fileNames(n, node int) []api.Name {
	var l []api.Name
	for i := range n {
		l = append(l, api.Name{Name: fmt.Sprintf("n%02d", i), Node: node})
	}
	return l
}

// chain has n nodes, each one but the root in the one ahead of it.
func chain(n int) api.Tree {
	x := New()
	for i := range n - 1 {
		x.Nodes[i].Names = []api.Name{{Name: "d", Node: i + 1}}
		x.Nodes = append(x.Nodes, api.Node{Kind: api.NodeDir, Links: 1})
	}
	return x
}

// manyNames has a directory of n names of one file.
func manyNames(n int) api.Tree {
	x := New()
	x.Nodes[0].Names = fileNames(n, 1)
	x.Nodes = append(x.Nodes, api.Node{Kind: api.NodeFile, Links: n})
	return x
}

// forms are trees, some of which may be, with the words of the chapter that say so.
func forms() map[string]api.Tree {
	one := func(n api.Node) api.Tree { return api.Tree{Nodes: []api.Node{n}} }
	with := func(n api.Node) api.Tree {
		return api.Tree{Nodes: []api.Node{{Kind: api.NodeDir, Links: 1}, n}}
	}
	named := func(n api.Node, names ...string) api.Tree {
		x := with(n)
		x.Nodes[1].Links = len(names)
		for _, s := range names {
			x.Nodes[0].Names = append(x.Nodes[0].Names, api.Name{Name: s, Node: 1})
		}
		return x
	}
	file, dir := api.Node{Kind: api.NodeFile}, api.Node{Kind: api.NodeDir}
	return map[string]api.Tree{
		"none": {}, "empty": {Nodes: []api.Node{}}, "one free": one(api.Node{}), "two free": {Nodes: make([]api.Node, 2)},
		"ok root": New(), "ok root at MaxClock": one(api.Node{Kind: 2, Links: 1, Time: 1 << 50}), "root too late": one(api.Node{Kind: 2, Links: 1, Time: 1<<50 + 1}),
		"root ahead of all": one(api.Node{Kind: 2, Links: 1, Time: -1}), "root file": one(api.Node{Kind: 1, Links: 1}), "root link": one(api.Node{Kind: 3, Links: 1, Target: "x"}),
		"root without links": one(dir), "root with two": one(api.Node{Kind: 2, Links: 2}), "root with data": one(api.Node{Kind: 2, Links: 1, Data: []byte{0}}),
		"root with target": one(api.Node{Kind: 2, Links: 1, Target: "x"}), "root in itself": one(api.Node{Kind: 2, Links: 1, Names: []api.Name{{Name: "a"}}}),
		"root in itself, two": one(api.Node{Kind: 2, Links: 2, Names: []api.Name{{Name: "a"}}}), "free root, a directory": {Nodes: []api.Node{{}, {Kind: 2, Links: 1}}},
		"ok file without names": with(file), "ok directory without names": with(dir), "ok link without names": with(api.Node{Kind: 3, Target: "x"}),
		"ok empty lists": with(api.Node{Kind: 2, Data: []byte{}, Names: []api.Name{}}), "free behind": with(api.Node{}), "kind 4": with(api.Node{Kind: 4}), "kind -1": with(api.Node{Kind: -1}),
		"ok 64 nodes": {Nodes: append(New().Nodes, slices.Repeat([]api.Node{file}, 63)...)}, "65 nodes": {Nodes: append(New().Nodes, slices.Repeat([]api.Node{file}, 64)...)},
		"ok free between": {Nodes: append(New().Nodes, api.Node{}, file)}, "free with time": {Nodes: append(New().Nodes, api.Node{Time: 1}, file)},
		"free with links": {Nodes: append(New().Nodes, api.Node{Links: 1}, file)}, "free with data": {Nodes: append(New().Nodes, api.Node{Data: []byte("x")}, file)},
		"free with target": {Nodes: append(New().Nodes, api.Node{Target: "x"}, file)}, "free with names": {Nodes: append(New().Nodes, api.Node{Names: []api.Name{{Name: "a", Node: 2}}}, api.Node{Kind: 1, Links: 1})},
		"ok file of 16384": with(api.Node{Kind: 1, Data: make([]byte, 16384)}), "file of 16385": with(api.Node{Kind: 1, Data: make([]byte, 16385)}),
		"file with target": with(api.Node{Kind: 1, Target: "x"}), "file with names": {Nodes: append(New().Nodes, api.Node{Kind: 1, Names: []api.Name{{Name: "a", Node: 2}}}, api.Node{Kind: 1, Links: 1})},
		"file with links": with(api.Node{Kind: 1, Links: 1}), "file with -1": with(api.Node{Kind: 1, Links: -1}), "file too late": with(api.Node{Kind: 1, Time: 1<<50 + 1}), "file ahead of all": with(api.Node{Kind: 1, Time: math.MinInt64}),
		"ok named twice": named(file, "a", "b"), "unsorted": named(file, "b", "a"), "named alike": named(file, "a", "a"), "ok bytes rise": named(file, "B", "a", "\xff"), "runes rise": named(file, "\xff", "ä"),
		"name empty": named(file, ""), "name .": named(file, "."), "name ..": named(file, ".."), "ok name ...": named(file, "..."), "name /": named(file, "a/b"), "name 0": named(file, "a\x00"),
		"ok name of 64": named(file, long64), "name of 65": named(file, long65), "second name": named(file, "a", "a/"), "directory named twice": named(dir, "a", "b"), "ok directory": named(dir, "a"), "ok link": named(api.Node{Kind: 3, Target: "x"}, "a"),
		"directory with data": named(api.Node{Kind: 2, Data: []byte("x")}, "a"), "directory with target": named(api.Node{Kind: 2, Target: "x"}, "a"),
		"ok target of 512": with(api.Node{Kind: 3, Target: strings.Repeat("t", 512)}), "target of 513": with(api.Node{Kind: 3, Target: strings.Repeat("t", 513)}), "no target": with(api.Node{Kind: 3}),
		"target with 0": with(api.Node{Kind: 3, Target: "a\x00"}), "ok target /": with(api.Node{Kind: 3, Target: "/../."}), "link with data": with(api.Node{Kind: 3, Target: "x", Data: []byte("x")}),
		"link with names": {Nodes: append(New().Nodes, api.Node{Kind: 3, Target: "x", Names: []api.Name{{Name: "a", Node: 2}}}, api.Node{Kind: 1, Links: 1})},
		"ok 64 names":     manyNames(64), "65 names": manyNames(65),
		"gone directory with a name":     {Nodes: append(New().Nodes, api.Node{Kind: 2, Names: []api.Name{{Name: "a", Node: 2}}}, api.Node{Kind: 1, Links: 1})},
		"gone directory with one":        {Nodes: append(New().Nodes, api.Node{Kind: 2, Names: []api.Name{{Name: "a", Node: 2}}}, api.Node{Kind: 2, Links: 1})},
		"in itself":                      {Nodes: append(New().Nodes, api.Node{Kind: 2, Links: 1, Names: []api.Name{{Name: "a", Node: 1}}})},
		"in one another":                 {Nodes: append(New().Nodes, api.Node{Kind: 2, Links: 1, Names: []api.Name{{Name: "a", Node: 2}}}, api.Node{Kind: 2, Links: 1, Names: []api.Name{{Name: "a", Node: 1}}})},
		"in one another, named":          {Nodes: []api.Node{{Kind: 2, Links: 1, Names: []api.Name{{Name: "a", Node: 1}}}, {Kind: 2, Links: 2, Names: []api.Name{{Name: "a", Node: 2}}}, {Kind: 2, Links: 1, Names: []api.Name{{Name: "a", Node: 1}}}}},
		"in one another, a file":         {Nodes: append(New().Nodes, api.Node{Kind: 2, Links: 1, Names: []api.Name{{Name: "a", Node: 1}, {Name: "f", Node: 2}}}, api.Node{Kind: 1, Links: 1})},
		"ok chain":                       chain(64),
		"chain of 65":                    chain(65),
		"names a free one":               {Nodes: append([]api.Node{{Kind: 2, Links: 1, Names: []api.Name{{Name: "a", Node: 1}}}}, api.Node{}, file)},
		"names none":                     {Nodes: []api.Node{{Kind: 2, Links: 1, Names: []api.Name{{Name: "a", Node: 1}}}}},
		"names -1":                       {Nodes: []api.Node{{Kind: 2, Links: 1, Names: []api.Name{{Name: "a", Node: -1}}}}},
		"names far":                      {Nodes: []api.Node{{Kind: 2, Links: 1, Names: []api.Name{{Name: "a", Node: math.MaxInt}}}}},
		"names the root, below":          {Nodes: []api.Node{{Kind: 2, Links: 1, Names: []api.Name{{Name: "a", Node: 1}}}, {Kind: 2, Links: 1, Names: []api.Name{{Name: "a"}}}}},
		"names the root, which has two":  {Nodes: []api.Node{{Kind: 2, Links: 2, Names: []api.Name{{Name: "a", Node: 1}}}, {Kind: 2, Links: 1, Names: []api.Name{{Name: "a"}}}}},
		"ok node ahead of its directory": {Nodes: []api.Node{{Kind: 2, Links: 1, Names: []api.Name{{Name: "a", Node: 2}}}, {Kind: 2, Links: 1}, {Kind: 2, Links: 1, Names: []api.Name{{Name: "a", Node: 1}}}}},
	}
}

// TestForms: which trees may be (P13.1).
func TestForms(t *testing.T) {
	for why, x := range forms() {
		may := strings.HasPrefix(why, "ok ")
		if mayBeModel(x) != may {
			t.Errorf("%s: the model", why)
		}
		if e := Check(x); (e == api.OK) != may || e != api.OK && e != api.ErrForm {
			t.Errorf("%s: %d", why, e)
		}
	}
}

// calls are one of each, such as many trees do.
func calls() []call {
	return []call{
		{name: "find", s: "a"}, {name: "parent"}, {name: "make", s: "new", kind: 1}, {name: "link", node: 1, s: "new"}, {name: "unlink", s: "a"},
		{name: "free", node: 1}, {name: "rename", s: "a", s2: "new"}, {name: "read", node: 1, n: 9}, {name: "write", node: 1, b: "b"}, {name: "cut", node: 1, n: 3},
	}
}

// TestMalformed: of a tree that may not be each call tells ErrForm and nothing, whatever else it is handed.
func TestMalformed(t *testing.T) {
	for why, x := range forms() {
		if strings.HasPrefix(why, "ok ") {
			continue
		}
		for _, c := range calls() {
			for _, now := range []int64{0, -1} {
				for _, s := range []string{c.s, ""} {
					c.now, c.s = now, s
					if r := c.real(x); r.e != api.ErrForm || r.number != 0 || r.bytes != "" || r.tree.Nodes != nil {
						t.Errorf("%s: %+v: %d, %q, %d\n%s", why, c, r.number, r.bytes, r.e, show(r.tree))
					}
				}
			}
		}
	}
}

// TestChanged: trees that may be, changed here and there, against the model.
func TestChanged(t *testing.T) {
	t.Parallel()
	random := rand.New(rand.NewSource(131))
	may := map[bool]int{}
	for range 60000 {
		x := grown(t, random, random.Intn(12))
		for range 1 + random.Intn(3) {
			change(&x, random)
		}
		want := mayBeModel(x)
		if e := Check(x); (e == api.OK) != want || e != api.OK && e != api.ErrForm {
			t.Fatalf("%d\n%s", e, show(x))
		}
		may[want]++
	}
	if may[true] < 1000 || may[false] < 1000 {
		t.Errorf("%v", may)
	}
}

// grown makes a tree by some calls that are not held to the model.
func grown(t *testing.T, random *rand.Rand, steps int) api.Tree {
	t.Helper()
	x := New()
	for range steps {
		if r := anyCall(random, x).real(x); r.tree.Nodes != nil {
			x = r.tree
		}
	}
	return x
}

// change changes something in a tree.
func change(x *api.Tree, random *rand.Rand) {
	if len(x.Nodes) == 0 {
		return
	}
	i := random.Intn(len(x.Nodes))
	n := &x.Nodes[i]
	switch random.Intn(12) {
	case 0:
		n.Kind = random.Intn(5)
	case 1:
		n.Links += random.Intn(3) - 1
	case 2:
		n.Time = times()[random.Intn(len(times()))]
	case 3:
		n.Target = []string{"", "t", "\x00"}[random.Intn(3)]
	case 4:
		n.Data = make([]byte, []int{0, 1, 16384, 16385}[random.Intn(4)])
	case 5:
		x.Nodes = append(x.Nodes, api.Node{Kind: random.Intn(4)})
	case 6:
		x.Nodes = x.Nodes[:len(x.Nodes)-1]
	case 7:
		j := random.Intn(len(x.Nodes))
		x.Nodes[j], x.Nodes[i] = x.Nodes[i], x.Nodes[j]
	case 8:
		x.Nodes[i] = api.Node{}
	default:
		changeNames(x, n, random)
	}
}

// changeNames changes the names of a node, and now and then Links as it would have to be.
func changeNames(x *api.Tree, n *api.Node, random *rand.Rand) {
	to := random.Intn(len(x.Nodes)+2) - 1
	if k := len(n.Names); k > 0 && random.Intn(2) == 0 {
		n.Names[random.Intn(k)].Node = to
	} else {
		n.Names = append(n.Names, api.Name{Name: someNames[random.Intn(len(someNames))], Node: to})
	}
	if to >= 0 && to < len(x.Nodes) && random.Intn(2) == 0 {
		x.Nodes[to].Links++
	}
}

// TestFarOff: numbers far from all that may be do no harm, in trees neither.
func TestFarOff(t *testing.T) {
	x := sample(t)
	for _, a := range farNumbers() {
		for _, b := range farNumbers() {
			y := copyOf(x)
			y.Nodes[0].Names[0].Node = a
			y.Nodes[1].Links = b
			y.Nodes[5].Kind = a
			if Check(y) != api.ErrForm {
				t.Errorf("%d, %d", a, b)
			}
			for _, c := range calls() {
				c.node, c.dir, c.to, c.kind, c.at, c.n, c.now = a, b, a, b, a, b, int64(a)
				if r := ask(t, x, c); r.e != api.ErrForm {
					t.Errorf("%+v: %d", c, r.e)
				}
				c = call{name: c.name, s: c.s, node: 3, s2: c.s2, kind: a, at: a, n: b, b: c.b}
				ask(t, x, c)
			}
		}
	}
}
