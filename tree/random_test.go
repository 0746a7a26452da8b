package tree

import (
	"fmt"
	"math/rand"
	"slices"
	"strings"
	"testing"

	"gangway/api"
)

var someNames = []string{"a", "b", "c", "d", "B", "aa", "\xff", "...", "n", "", ".", "..", "a/b", "x\x00", long64, long65}

// anyCall is one by chance: mostly of nodes that are there and of names that may be.
func anyCall(random *rand.Rand, x api.Tree) call {
	node := func() int {
		if random.Intn(40) == 0 {
			return farNumbers()[random.Intn(len(farNumbers()))]
		}
		return random.Intn(len(x.Nodes) + random.Intn(2))
	}
	name := func() string {
		if random.Intn(10) == 0 {
			return someNames[random.Intn(len(someNames))]
		}
		return someNames[random.Intn(5)]
	}
	number := func() int {
		if random.Intn(30) == 0 {
			return places()[random.Intn(len(places()))]
		}
		return random.Intn(30)
	}
	c := call{dir: node(), s: name(), to: node(), s2: name(), node: node(), now: random.Int63n(1000), at: number(), n: number(), isdir: random.Intn(2) == 0, b: strings.Repeat("w", random.Intn(20))}
	if random.Intn(40) == 0 {
		c.now = times()[random.Intn(len(times()))]
	}
	c.name = []string{"find", "parent", "make", "make", "make", "link", "unlink", "free", "rename", "rename", "read", "write", "cut"}[random.Intn(13)]
	c.kind = random.Intn(5)
	if c.kind == api.NodeLink || random.Intn(10) == 0 {
		c.target = []string{"t", "../a", "/", "", "a\x00", strings.Repeat("t", 512), strings.Repeat("t", 513)}[random.Intn(7)]
	}
	return c
}

// TestHistories: long ones, each call held to the model (P13.1 to P13.7).
func TestHistories(t *testing.T) {
	t.Parallel()
	random := rand.New(rand.NewSource(13))
	seen := map[string]int{}
	for range 120 {
		x := New()
		for range 250 {
			c := anyCall(random, x)
			r := ask(t, x, c)
			seen[fmt.Sprint(c.name, " ", int(r.e))]++
			if r.tree.Nodes != nil {
				x = r.tree
			}
		}
	}
	for name, errors := range map[string][]api.Errno{
		"find": {0, 54, 28, 37, 44, 100}, "parent": {0, 54, 44, 100}, "make": {0, 100, 54, 28, 37, 44, 20}, "link": {0, 100, 63, 54, 28, 37, 44, 20},
		"unlink": {0, 100, 54, 28, 37, 44, 55, 31}, "free": {0, 100, 63}, "rename": {0, 100, 54, 28, 37, 44, 55, 31}, "read": {0, 100, 31, 28}, "write": {0, 100, 31, 28, 22}, "cut": {0, 100, 31, 28, 22},
	} {
		for _, e := range errors {
			if seen[fmt.Sprint(name, " ", int(e))] == 0 {
				t.Errorf("%s: never %d", name, e)
			}
		}
	}
}

// TestCrowd: histories in trees that have no number left, and directories with no room (P13.3, P13.5).
func TestCrowd(t *testing.T) {
	t.Parallel()
	random := rand.New(rand.NewSource(133))
	seen := map[string]int{}
	for k := range 8 {
		x := manyNames(63)
		x.Nodes[0].Names = append(x.Nodes[0].Names, api.Name{Name: "p", Node: 2})
		x.Nodes[1].Links += 63
		x.Nodes = append(x.Nodes, api.Node{Kind: api.NodeDir, Links: 1, Names: fileNames(63, 1)})
		if k%2 == 0 {
			x.Nodes = append(x.Nodes, slices.Repeat([]api.Node{{Kind: api.NodeFile}}, 61)...)
		}
		for range 300 {
			c := anyCall(random, x)
			c.s, c.s2 = fmt.Sprintf("n%02d", random.Intn(70)), fmt.Sprintf("n%02d", random.Intn(70))
			if random.Intn(4) > 0 {
				c.dir, c.to, c.node = random.Intn(3), random.Intn(3), 1
			}
			if c.name == "unlink" && random.Intn(3) > 0 {
				c.name = "link"
			}
			r := ask(t, x, c)
			seen[fmt.Sprint(c.name, " ", int(r.e), " ", len(x.Nodes) == 64)]++
			if r.tree.Nodes != nil {
				x = r.tree
			}
		}
	}
	for _, s := range []string{"make 51 true", "make 51 false", "make 0 true", "link 51 true", "link 51 false", "link 0 true", "rename 51 true", "rename 51 false", "rename 0 true"} {
		if seen[s] == 0 {
			t.Errorf("never %s", s)
		}
	}
}

// TestFull: what is done still in a full directory and in a full tree (P13.3, P13.5).
func TestFull(t *testing.T) {
	x := manyNames(64)
	x.Nodes[0].Names = append(x.Nodes[0].Names[:62], api.Name{Name: "p", Node: 2}, api.Name{Name: "q", Node: 3})
	x.Nodes[1].Links = 63
	x.Nodes = append(x.Nodes, api.Node{Kind: api.NodeDir, Links: 1, Names: []api.Name{{Name: "e", Node: 4}, {Name: "f", Node: 5}, {Name: "g", Node: 1}}}, api.Node{Kind: api.NodeDir, Links: 1}, api.Node{Kind: api.NodeDir, Links: 1}, api.Node{Kind: api.NodeFile, Links: 1})
	for _, c := range []struct {
		call
		e api.Errno
	}{
		{call{name: "make", s: "new", kind: 1}, 51}, {call{name: "make", s: "p", kind: 1}, 20}, {call{name: "link", node: 5, s: "new"}, 51}, {call{name: "link", node: 5, s: "n00"}, 20},
		{call{name: "rename", s: "n00", s2: "new"}, 0}, {call{name: "rename", s: "n00", s2: "n01"}, 0}, {call{name: "rename", s: "p", s2: "new"}, 0}, {call{name: "rename", s: "q", s2: "p"}, 55}, {call{name: "rename", s: "p", s2: "q"}, 0},
		{call{name: "rename", dir: 2, s: "f", s2: "new"}, 51}, {call{name: "rename", dir: 2, s: "f", s2: "n05"}, 0}, {call{name: "rename", dir: 2, s: "g", s2: "n05"}, 0}, {call{name: "rename", dir: 2, s: "e", s2: "new"}, 51}, {call{name: "rename", dir: 2, s: "e", s2: "q"}, 0},
		{call{name: "rename", dir: 2, s: "f", s2: "q"}, 31}, {call{name: "rename", s: "p", to: 2, s2: "e"}, 28}, {call{name: "rename", s: "n00", to: 2, s2: "new"}, 0}, {call{name: "rename", s: "q", to: 2, s2: "new"}, 0},
		{call{name: "unlink", s: "n00"}, 0}, {call{name: "write", node: 1, b: "b"}, 0},
	} {
		if r := ask(t, x, c.call); r.e != c.e {
			t.Errorf("%+v: %d", c.call, r.e)
		}
	}
	x = chain(64)
	for dir := range 64 {
		for kind := 1; kind < 4; kind++ {
			if r := ask(t, x, call{name: "make", dir: dir, s: "new", kind: kind, target: strings.Repeat("t", kind/3)}); r.e != api.ErrNospc {
				t.Errorf("%d: %d", dir, r.e)
			}
		}
	}
}

// TestDeep: a directory goes nowhere below itself, but anywhere else (P13.5); parents, from the depth on (P13.2).
func TestDeep(t *testing.T) {
	t.Parallel()
	x := chain(64)
	for from := range 63 {
		for to := range 64 {
			want := api.OK
			if to > from {
				want = api.ErrInval
			}
			if r := ask(t, x, call{name: "rename", dir: from, s: "d", to: to, s2: "e", now: 4}); r.e != want {
				t.Fatalf("%d to %d: %d", from, to, r.e)
			}
		}
		if up, e := Parent(x, from+1); up != from || e != api.OK {
			t.Errorf("%d: %d, %d", from+1, up, e)
		}
	}
}
