package tree

import (
	"bytes"
	"fmt"
	"math"
	"reflect"
	"slices"
	"strings"
	"testing"

	"gangway/api"
)

// same tells whether two trees are one; a nil list and an empty one are.
func same(a, b api.Tree) bool {
	return slices.EqualFunc(a.Nodes, b.Nodes, func(x, y api.Node) bool {
		return x.Kind == y.Kind && bytes.Equal(x.Data, y.Data) && slices.Equal(x.Names, y.Names) && x.Target == y.Target && x.Links == y.Links && x.Time == y.Time
	})
}

func show(t api.Tree) string {
	s := ""
	for i, n := range t.Nodes {
		s += fmt.Sprintf("%d: %c%d@%d %d bytes %.40q %.40q %.400v\n", i, "-fdl????"[n.Kind&7], n.Links, n.Time, len(n.Data), n.Data, n.Target, n.Names)
	}
	return s
}

// copyOf is one that shares nothing.
func copyOf(t api.Tree) api.Tree {
	var c api.Tree
	for _, n := range t.Nodes {
		n.Data = append([]byte(nil), n.Data...)
		n.Names = append([]api.Name(nil), n.Names...)
		c.Nodes = append(c.Nodes, n)
	}
	return c
}

// scribbleSpare writes over all spare room of a tree.
func scribbleSpare(t api.Tree) {
	for _, n := range t.Nodes {
		for i := range n.Data[len(n.Data):cap(n.Data)] {
			n.Data[len(n.Data):cap(n.Data)][i] = '#'
		}
		for i := range n.Names[len(n.Names):cap(n.Names)] {
			n.Names[len(n.Names):cap(n.Names)][i] = api.Name{Name: "#", Node: 99}
		}
	}
	spare := t.Nodes[len(t.Nodes):cap(t.Nodes)]
	for i := range spare {
		spare[i] = api.Node{Kind: 9}
	}
}

// scribble writes over all of a tree.
func scribble(t api.Tree) {
	scribbleSpare(t)
	for i, n := range t.Nodes {
		for k := range n.Data {
			n.Data[k] = '#'
		}
		for k := range n.Names {
			n.Names[k] = api.Name{Name: "#", Node: 99}
		}
		t.Nodes[i] = api.Node{Kind: 9}
	}
}

// ask asks a tree that may be, and holds what is told against the model; and that the tree is as it was, and shares nothing with what is told.
func ask(t *testing.T, x api.Tree, c call) told {
	t.Helper()
	was := copyOf(x)
	got, want := c.real(x), modelOf(x).does(c)
	if got.e != want.e || got.number != want.number || got.bytes != want.bytes || !same(got.tree, want.tree) {
		t.Fatalf("%+v:\n%stells %d, %q, %d\n%snot %d, %q, %d\n%s", c, show(x), got.number, got.bytes, got.e, show(got.tree), want.number, want.bytes, want.e, show(want.tree))
	}
	if len(got.tree.Nodes) > 0 && (Check(got.tree) != api.OK || !mayBeModel(got.tree)) {
		t.Fatalf("%+v: may not be:\n%s", c, show(got.tree))
	}
	again := c.real(x)
	scribbleSpare(again.tree)
	if !same(again.tree, got.tree) {
		t.Fatalf("%+v: what is told shares room", c)
	}
	scribble(again.tree)
	if !same(x, was) || !same(got.tree, want.tree) {
		t.Fatalf("%+v: what is told is shared", c)
	}
	return got
}

// sample has a directory in a directory, names of one file in two, an empty directory, and nodes without names.
func sample(t *testing.T) api.Tree {
	t.Helper()
	x := api.Tree{Nodes: []api.Node{
		{Kind: api.NodeDir, Links: 1, Time: 3, Names: []api.Name{{Name: "a", Node: 1}, {Name: "b", Node: 2}, {Name: "f", Node: 3}, {Name: "l", Node: 4}}},
		{Kind: api.NodeDir, Links: 1, Names: []api.Name{{Name: "b", Node: 5}, {Name: "f", Node: 3}, {Name: "x", Node: 6}}},
		{Kind: api.NodeDir, Links: 1, Time: api.MaxClock},
		{Kind: api.NodeFile, Links: 2, Data: []byte("data\x00more"), Time: 5},
		{Kind: api.NodeLink, Links: 1, Target: "a/f", Time: 6},
		{Kind: api.NodeDir, Links: 1, Names: []api.Name{{Name: "a", Node: 7}}},
		{Kind: api.NodeFile, Links: 1},
		{Kind: api.NodeDir, Links: 1},
		{},
		{Kind: api.NodeFile, Data: []byte("gone")},
		{Kind: api.NodeDir, Time: 9},
		{},
		{Kind: api.NodeLink, Target: "/"},
	}}
	if Check(x) != api.OK || !mayBeModel(x) {
		t.Fatal("the sample may not be")
	}
	return x
}

var long64, long65 = strings.Repeat("n", 64), strings.Repeat("n", 65)

// badNames are some that are none, and one that is.
func badNames() []string {
	return []string{"", ".", "..", "a/", "/", "a\x00", "\x00", long65, long65 + "/", long64}
}

// numbers are those of the sample, those beside them, and far ones.
func numbers(x api.Tree) []int {
	l := farNumbers()
	for i := range len(x.Nodes) + 1 {
		l = append(l, i)
	}
	return l
}

func times() []int64 {
	return []int64{math.MinInt64, -1, 0, 1, 1 << 50, 1<<50 + 1, math.MaxInt64}
}

// TestExample is the chapter's.
func TestExample(t *testing.T) {
	x, node, e := Make(New(), 0, "a", api.NodeFile, "", 1)
	if node != 1 || e != api.OK {
		t.Fatalf("%d, %d", node, e)
	}
	x, e1 := Link(x, 1, 0, "b", 2)
	x, e2 := Unlink(x, 0, "a", false, 3)
	b, e3 := Find(x, 0, "b")
	_, e4 := Find(x, 0, "a")
	if e1 != api.OK || e2 != api.OK || e3 != api.OK || b != 1 || x.Nodes[b].Links != 1 || e4 != api.ErrNoent {
		t.Errorf("%d, %d, %d, %d\n%s", e1, e2, e3, e4, show(x))
	}
}

// TestNew: a root alone; each one its own (P13.1).
func TestNew(t *testing.T) {
	x := New()
	if !reflect.DeepEqual(x, api.Tree{Nodes: []api.Node{{Kind: api.NodeDir, Links: 1}}}) || Check(x) != api.OK {
		t.Errorf("%s", show(x))
	}
	x.Nodes[0].Time = 7
	_ = append(x.Nodes, api.Node{Kind: 9})
	if New().Nodes[0].Time != 0 {
		t.Error("shared")
	}
}

// TestName: what a name is, and which error comes first (P13.1).
func TestName(t *testing.T) {
	for s, want := range map[string]api.Errno{
		"": 28, ".": 28, "..": 28, "...": 0, ". ": 0, " ": 0, ".a": 0, "a.": 0, "..a": 0, "\xff": 0, "\x01": 0, "\\": 0, "ä": 0,
		"/": 28, "a/b": 28, "/a": 28, "a/": 28, "\x00": 28, "a\x00": 28, "\x00a": 28, "0": 0,
		long64: 0, long65: 37, long65 + "/": 28, long65 + "\x00": 28, "/" + long65: 28, long64[1:] + "/": 28, long64 + "/": 28,
		strings.Repeat("ä", 32): 0, strings.Repeat("ä", 32) + "a": 37, strings.Repeat("a", 1<<20): 37,
	} {
		if e := Name(s); e != want {
			t.Errorf("%.80q: %d, not %d", s, e, want)
		}
	}
	for b := range 256 {
		s := string([]byte{'a', byte(b), 'c'})
		if e, want := Name(s), first(badName(s)); e != want {
			t.Errorf("%q: %d, not %d", s, e, want)
		}
	}
}

// TestFind: all names of all nodes (P13.2).
func TestFind(t *testing.T) {
	x := sample(t)
	for _, dir := range numbers(x) {
		for _, s := range append(badNames(), "a", "b", "f", "l", "x", "c", "A", "aa", "~", "\x01") {
			ask(t, x, call{name: "find", dir: dir, s: s})
		}
	}
}

// TestParent: of all nodes (P13.2).
func TestParent(t *testing.T) {
	x := sample(t)
	for _, dir := range numbers(x) {
		ask(t, x, call{name: "parent", dir: dir})
	}
	for node, want := range map[int]int{0: 0, 1: 0, 2: 0, 5: 1, 7: 5} {
		if up, e := Parent(x, node); up != want || e != api.OK {
			t.Errorf("%d: %d, %d", node, up, e)
		}
	}
}

// TestMake: all kinds, names, targets and times, in all nodes (P13.3).
func TestMake(t *testing.T) {
	x := sample(t)
	targets := []string{"", "a", "/a/../b", "\x00", "a\x00b", strings.Repeat("t", 512), strings.Repeat("t", 513), strings.Repeat("t", 513) + "\x00"}
	for _, dir := range numbers(x) {
		for _, s := range append(badNames(), "a", "f", "c", "A", "~") {
			for _, kind := range []int{math.MinInt, -1, 0, 1, 2, 3, 4, 5, math.MaxInt} {
				for _, target := range targets {
					ask(t, x, call{name: "make", dir: dir, s: s, kind: kind, target: target, now: 8})
				}
			}
		}
	}
	for _, now := range times() {
		for _, dir := range []int{0, 1, 3, 8, 9, 10} {
			ask(t, x, call{name: "make", dir: dir, s: "c", kind: 1, now: now})
			ask(t, x, call{name: "make", dir: dir, s: "", kind: 3, now: now})
		}
	}
}

// TestNumbers: a new node's number is the least free one's, then how many there are; free ones at the end go (P13.3, P13.4).
func TestNumbers(t *testing.T) {
	x := sample(t)
	for _, want := range []int{8, 11, 13, 14} {
		r := ask(t, x, call{name: "make", dir: 2, s: fmt.Sprint("n", want), kind: want%3 + 1, target: strings.Repeat("t", want%3/2), now: 8})
		if r.e != api.OK || r.number != want {
			t.Fatalf("%d: %d, %d", want, r.number, r.e)
		}
		x = r.tree
	}
	x = sample(t)
	for _, c := range []struct{ node, left int }{{9, 13}, {10, 13}, {12, 8}} {
		r := ask(t, x, call{name: "free", node: c.node})
		if r.e != api.OK || len(r.tree.Nodes) != c.left {
			t.Fatalf("%d: %d, %d nodes", c.node, r.e, len(r.tree.Nodes))
		}
		x = r.tree
	}
}

// TestLink: all nodes by all names (P13.3).
func TestLink(t *testing.T) {
	x := sample(t)
	for _, node := range numbers(x) {
		for _, dir := range numbers(x) {
			for _, s := range append(badNames(), "a", "f", "c", "A", "~") {
				ask(t, x, call{name: "link", node: node, dir: dir, s: s, now: 8})
			}
		}
	}
	for _, now := range times() {
		ask(t, x, call{name: "link", node: 3, dir: 1, s: "c", now: now})
		ask(t, x, call{name: "link", node: 1, dir: 3, s: "", now: now})
	}
}

// TestUnlink: all names of all nodes (P13.4).
func TestUnlink(t *testing.T) {
	x := sample(t)
	for _, isdir := range []bool{false, true} {
		for _, dir := range numbers(x) {
			for _, s := range append(badNames(), "a", "b", "f", "l", "x", "c") {
				ask(t, x, call{name: "unlink", dir: dir, s: s, isdir: isdir, now: 8})
			}
		}
		for _, now := range times() {
			ask(t, x, call{name: "unlink", dir: 0, s: "b", isdir: isdir, now: now})
			ask(t, x, call{name: "unlink", dir: 3, s: "", isdir: isdir, now: now})
		}
	}
}

// TestFree: all nodes (P13.4).
func TestFree(t *testing.T) {
	x := sample(t)
	for _, node := range numbers(x) {
		ask(t, x, call{name: "free", node: node})
	}
	ask(t, New(), call{name: "free", node: 0})
}

// TestRename: all names to all names (P13.5).
func TestRename(t *testing.T) {
	t.Parallel()
	x := sample(t)
	dirs := append([]int{-1, 99}, numbers(x)[len(farNumbers()):]...)
	seen := map[api.Errno]int{}
	for _, d1 := range dirs {
		for _, s1 := range []string{"a", "b", "f", "l", "x", "c", "", long65} {
			for _, d2 := range dirs {
				for _, s2 := range []string{"a", "b", "f", "l", "x", "c", "", long65} {
					seen[ask(t, x, call{name: "rename", dir: d1, s: s1, to: d2, s2: s2, now: 8}).e]++
				}
			}
		}
	}
	for _, e := range []api.Errno{0, 28, 31, 37, 44, 54, 55, 100} {
		if seen[e] == 0 {
			t.Errorf("never %d", e)
		}
	}
	for _, s := range badNames() {
		ask(t, x, call{name: "rename", dir: 0, s: s, to: 1, s2: s, now: 8})
		ask(t, x, call{name: "rename", dir: 0, s: "f", to: 2, s2: s, now: 8})
	}
	for _, now := range times() {
		ask(t, x, call{name: "rename", dir: 0, s: "f", to: 2, s2: "c", now: now})
		ask(t, x, call{name: "rename", dir: 0, s: "f", to: 0, s2: "f", now: now})
		ask(t, x, call{name: "rename", dir: 3, s: "", to: 0, s2: "", now: now})
	}
	for _, n := range farNumbers() {
		ask(t, x, call{name: "rename", dir: n, s: "f", to: 0, s2: "f", now: 8})
		ask(t, x, call{name: "rename", dir: 0, s: "f", to: n, s2: "f", now: 8})
	}
}

// TestThereAndBack: names are as they were (P13.7).
func TestThereAndBack(t *testing.T) {
	x := sample(t)
	done := 0
	for d1, node := range x.Nodes {
		for _, n := range node.Names {
			for d2 := range x.Nodes {
				for _, s2 := range []string{"\x01", "b", "c", "~", long64} {
					if _, e := Find(x, d2, s2); e != api.ErrNoent {
						continue
					}
					y, e := Rename(x, d1, n.Name, d2, s2, 20)
					if e != api.OK {
						continue
					}
					if _, e := Find(y, d1, n.Name); e != api.ErrNoent {
						t.Errorf("%d %s is there still", d1, n.Name)
					}
					z, e := Rename(y, d2, s2, d1, n.Name, 20)
					if e != api.OK {
						t.Errorf("%d %s, %d %s: %d", d1, n.Name, d2, s2, e)
					}
					for i := range z.Nodes {
						if !slices.Equal(z.Nodes[i].Names, x.Nodes[i].Names) || z.Nodes[i].Links != x.Nodes[i].Links {
							t.Errorf("%d %s, %d %s:\n%s", d1, n.Name, d2, s2, show(z))
						}
					}
					done++
				}
			}
		}
	}
	if done < 50 {
		t.Errorf("%d", done)
	}
}

// places are numbers about which something ends, for the bytes of a file.
func places() []int {
	l := farNumbers()
	for _, n := range []int{0, 4, 9, 16383} {
		l = append(l, n-1, n, n+1, n+2)
	}
	return l
}

// TestRead: all nodes at all places (P13.6).
func TestRead(t *testing.T) {
	x := sample(t)
	for _, node := range numbers(x) {
		for _, at := range places() {
			for _, n := range places() {
				ask(t, x, call{name: "read", node: node, at: at, n: n})
			}
		}
	}
}

// TestReadIsNew: what is read can be written over (R2).
func TestReadIsNew(t *testing.T) {
	x := sample(t)
	was := copyOf(x)
	for _, n := range []int{0, 2, 100} {
		b, _ := Read(x, 3, 0, n)
		c, _ := Read(x, 3, 0, n)
		text := string(c)
		for i := range b[:cap(b)] {
			b[:cap(b)][i] = '#'
		}
		if !same(x, was) || string(c) != text {
			t.Errorf("%d: shared", n)
		}
	}
}

// TestWrite: all nodes at all places, by texts of some lengths (P13.6).
func TestWrite(t *testing.T) {
	t.Parallel()
	x := sample(t)
	for _, node := range numbers(x) {
		for _, at := range places() {
			for _, b := range []string{"", "w", "\x00\x01", "written", strings.Repeat("w", 16380)} {
				ask(t, x, call{name: "write", node: node, at: at, b: b, now: 8})
			}
		}
	}
	for _, b := range []string{"", "w", strings.Repeat("w", 16383), strings.Repeat("w", 16384), strings.Repeat("w", 16385), strings.Repeat("w", 1<<20)} {
		for _, at := range []int{-1, 0, 1, 2} {
			ask(t, x, call{name: "write", node: 3, at: at, b: b, now: 8})
		}
	}
	for _, now := range times() {
		ask(t, x, call{name: "write", node: 3, at: 2, b: "w", now: now})
		ask(t, x, call{name: "write", node: 3, at: 2, now: now})
		ask(t, x, call{name: "write", node: 1, at: -1, now: now})
	}
}

// TestWrittenIsNew: what was written can be written over; nothing but its own bytes was taken (R2).
func TestWrittenIsNew(t *testing.T) {
	x := sample(t)
	for _, at := range []int{0, 9, 20} {
		b := []byte("text and more")
		y, e := Write(x, 3, at, b[:4], 8)
		was := copyOf(y)
		if e != api.OK || string(b) != "text and more" {
			t.Errorf("%q, %d", b, e)
		}
		scribbleSpare(y)
		clear(b)
		if !same(y, was) || string(b) != strings.Repeat("\x00", 13) {
			t.Errorf("%d: shared", at)
		}
	}
	b := x.Nodes[3].Data
	y, e := Write(x, 3, 2, b, 8)
	if e != api.OK || string(y.Nodes[3].Data) != "dadata\x00more" || string(b) != "data\x00more" {
		t.Errorf("%q, %q", y.Nodes[3].Data, b)
	}
}

// TestCut: all nodes to all lengths (P13.6).
func TestCut(t *testing.T) {
	x := sample(t)
	for _, node := range numbers(x) {
		for _, n := range places() {
			ask(t, x, call{name: "cut", node: node, n: n, now: 8})
		}
	}
	for _, now := range times() {
		ask(t, x, call{name: "cut", node: 3, n: 9, now: now})
		ask(t, x, call{name: "cut", node: 1, n: -1, now: now})
	}
	x, e1 := Cut(x, 3, 2, 8)
	scribbleSpare(x)
	x, e2 := Cut(x, 3, 6, 8)
	x, e3 := Write(x, 3, 9, []byte("w"), 8)
	if string(x.Nodes[3].Data) != "da\x00\x00\x00\x00\x00\x00\x00w" || e1 != api.OK || e2 != api.OK || e3 != api.OK {
		t.Errorf("%q", x.Nodes[3].Data)
	}
}
