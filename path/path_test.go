package path

import (
	"fmt"
	"math"
	"math/rand"
	"reflect"
	"slices"
	"strings"
	"testing"
	"time"

	"gangway/api"
	"gangway/tree"
)

var long64, long65 = strings.Repeat("n", 64), strings.Repeat("n", 65)

// copyOf is one that shares nothing.
func copyOf(t api.Tree) api.Tree {
	var c api.Tree
	for _, n := range t.Nodes {
		n.Data = append([]byte(nil), n.Data...)
		n.Names = append([]api.Name(nil), n.Names...)
		c.Nodes = append(c.Nodes, n)
	}
	return c
}

// put makes a node, and counts on its number being new.
func put(t *testing.T, x *api.Tree, dir int, s string, kind int, target string) int {
	t.Helper()
	y, node, e := tree.Make(*x, dir, s, kind, target, 0)
	if e != api.OK {
		t.Fatalf("%d, %q: %d", dir, s, e)
	}
	*x = y
	return node
}

// ask asks Resolve, and holds what it tells against the model.
func ask(t *testing.T, x api.Tree, dir int, s string, follow bool) (api.Where, api.Errno) {
	t.Helper()
	w, e := Resolve(x, dir, s, follow)
	mw, me := resolveModel(x, dir, s, follow)
	if w != mw || e != me {
		t.Fatalf("%d, %q, %v: %+v, %d, not %+v, %d\n%+v", dir, s, follow, w, e, mw, me, x)
	}
	return w, e
}

// sample: d with e in it, a file in each; links up and down, to themselves, outward, to nothing, in a ring; a directory without a name.
func sample(t *testing.T) api.Tree {
	t.Helper()
	x := tree.New()
	d := put(t, &x, 0, "d", api.NodeDir, "")
	e := put(t, &x, d, "e", api.NodeDir, "")
	put(t, &x, e, "f", api.NodeFile, "")
	put(t, &x, 0, "f", api.NodeFile, "")
	put(t, &x, e, long64, api.NodeDir, "")
	put(t, &x, 0, "l", api.NodeLink, "d/e")
	put(t, &x, d, "l", api.NodeLink, "../l/f")
	put(t, &x, e, "l", api.NodeLink, "../e//")
	put(t, &x, d, "m", api.NodeLink, "l/.")
	put(t, &x, e, "m", api.NodeLink, "..")
	put(t, &x, e, "r", api.NodeLink, "/d")
	put(t, &x, d, "r", api.NodeLink, "e/../r")
	put(t, &x, e, "n", api.NodeLink, "./n2")
	put(t, &x, d, "n", api.NodeLink, "e/n/")
	gone := put(t, &x, 0, "gone", api.NodeDir, "")
	x, err := tree.Unlink(x, 0, "gone", true, 0)
	if err != api.OK || x.Nodes[gone].Kind != api.NodeDir {
		t.Fatal(err)
	}
	free := put(t, &x, 0, "free", api.NodeFile, "")
	put(t, &x, 0, "z", api.NodeDir, "")
	if x, err = tree.Unlink(x, 0, "free", false, 0); err == api.OK {
		x, err = tree.Free(x, free)
	}
	if err != api.OK {
		t.Fatal(err)
	}
	return x
}

// paths are all of up to n parts.
func paths(n int) []string {
	l := []string{""}
	all := l
	for range n {
		var more []string
		for _, s := range l {
			for _, p := range []string{"d", "e", "f", "l", "m", "n", "r", ".", "..", "", "no", long64, long65} {
				more = append(more, s+p, s+p+"/")
			}
		}
		all = append(all, more...)
		l = slices.DeleteFunc(more, func(s string) bool { return !strings.HasSuffix(s, "/") })
	}
	return all
}

// TestAll: all short paths, from every node.
func TestAll(t *testing.T) {
	t.Parallel()
	x := sample(t)
	was := copyOf(x)
	errors := map[api.Errno]int{}
	for _, s := range paths(3) {
		for dir := -1; dir <= len(x.Nodes); dir++ {
			for _, follow := range []bool{false, true} {
				_, e := ask(t, x, dir, s, follow)
				errors[e]++
			}
		}
	}
	for _, e := range []api.Errno{api.OK, api.ErrForm, api.ErrNotdir, api.ErrNoent, api.ErrNametool, api.ErrNotcap, api.ErrLoop} {
		if errors[e] < 100 {
			t.Errorf("%d: %d times", e, errors[e])
		}
	}
	if !reflect.DeepEqual(x, was) {
		t.Error("the tree is changed")
	}
}

// TestExamples are the chapter's.
func TestExamples(t *testing.T) {
	x := tree.New()
	put(t, &x, 0, "a", api.NodeDir, "")
	b := put(t, &x, 0, "b", api.NodeFile, "")
	for _, s := range []string{"b", "a/../b"} {
		if w, e := Resolve(x, 0, s, false); w != (api.Where{Dir: 0, Name: "b", Node: b}) || e != api.OK {
			t.Errorf("%q: %+v, %d", s, w, e)
		}
	}
	if w, e := Resolve(x, 0, "../x", false); w != (api.Where{}) || e != api.ErrNotcap {
		t.Errorf("%+v, %d", w, e)
	}
}

// TestPathErrors: what may be no path, and which error is ahead of which.
func TestPathErrors(t *testing.T) {
	x := sample(t)
	for _, s := range []string{"", "\x00", "f\x00", "/", "/\x00", "\x00/", "//f", strings.Repeat("/", 512), strings.Repeat("/", 513), strings.Repeat("\x00", 512), strings.Repeat("\x00", 513), strings.Repeat("./", 255) + "f", strings.Repeat("./", 255) + "d/", strings.Repeat("./", 256), strings.Repeat("./", 255) + "ff", strings.Repeat("./", 256) + "f", "d" + strings.Repeat("/", 511), "d" + strings.Repeat("/", 512), "f" + strings.Repeat("/", 510) + ".", "d/" + long65 + "\x00", "d\xff/\xc0", "no/" + long65, long65 + "/no", long65 + "/", "f/" + long65, ".. ", "...", " ."} {
		for _, dir := range []int{math.MinInt, -1, 0, 1, 2, 3, 4, 14, 15, 16, 17, 18, math.MaxInt} {
			ask(t, x, dir, s, true)
			ask(t, x, dir, s, false)
		}
	}
	if _, e := Resolve(x, 0, strings.Repeat("a", 600)+"\x00", true); e != api.ErrNametool {
		t.Error(e)
	}
}

// TestMalformed: of a tree that may not be ErrForm is told, whatever else is handed in.
func TestMalformed(t *testing.T) {
	free, long, links, root := sample(t), sample(t), sample(t), sample(t)
	free.Nodes = append(free.Nodes, api.Node{})
	long.Nodes[3].Data = make([]byte, api.MaxFile+1)
	links.Nodes[3].Links++
	root.Nodes[0].Kind = api.NodeFile
	for i, x := range []api.Tree{{}, {Nodes: []api.Node{}}, free, long, links, root, {Nodes: make([]api.Node, 3)}, {Nodes: make([]api.Node, 65)}} {
		for _, s := range []string{"", "d", "/", "\x00", "d/e/f", ".", strings.Repeat("x", 999)} {
			for _, dir := range []int{-1, 0, 1, 3, 99} {
				if w, e := Resolve(x, dir, s, true); w != (api.Where{}) || e != api.ErrForm {
					t.Errorf("%d, %q, %d: %+v, %d", i, s, dir, w, e)
				}
			}
		}
	}
}

// chain has n links in the root, each to the next, the last one to target.
func chain(t *testing.T, n int, target string) api.Tree {
	t.Helper()
	x := tree.New()
	for i := range n {
		s := fmt.Sprint("l", i+1)
		if i == n-1 {
			s = target
		}
		put(t, &x, 0, fmt.Sprint("l", i), api.NodeLink, s)
	}
	put(t, &x, 0, "d", api.NodeDir, "")
	put(t, &x, 0, "f", api.NodeFile, "")
	return x
}

// TestLinks: as many links as may be, and one more: in one chain, part by part, in a ring, and outward.
func TestLinks(t *testing.T) {
	for n := 1; n <= 40; n++ {
		for _, target := range []string{"d", "f", "d/", "./d/.", "no", "/d", "..", "l0", "d/../l0", "no/", "d/no"} {
			x := chain(t, n, target)
			for _, s := range []string{"l0", "l0/", "l0/.", "l0/..", "l0/no", "l0/no/no", "d/../l0", "l1/../l0", "l0/../l0", "l0/../f"} {
				ask(t, x, 0, s, false)
				ask(t, x, 0, s, true)
			}
		}
		x := chain(t, 1, "d")
		for _, end := range []string{"l0", "l0/", "l0/..", "f", "l0/no"} {
			ask(t, x, 0, strings.Repeat("l0/../", n)+end, false)
			ask(t, x, 0, strings.Repeat("l0/../", n)+end, true)
		}
	}
	if _, e := Resolve(chain(t, 32, "d"), 0, "l0", true); e != api.OK {
		t.Error(e)
	}
	if _, e := Resolve(chain(t, 33, "/d"), 0, "l0", true); e != api.ErrLoop {
		t.Error(e)
	}
}

// TestLongest: the most parts that may come end soon.
func TestLongest(t *testing.T) {
	x := tree.New()
	put(t, &x, 0, "d", api.NodeDir, "")
	for i := range 62 {
		put(t, &x, 1, fmt.Sprint("f", i), api.NodeFile, "")
	}
	x, e := tree.Unlink(x, 1, "f0", false, 0)
	if e != api.OK {
		t.Fatal(e)
	}
	if x, e = tree.Free(x, 2); e != api.OK {
		t.Fatal(e)
	}
	put(t, &x, 1, "l", api.NodeLink, strings.Repeat("../d/", 102)+"l")
	begin := time.Now()
	if _, e := Resolve(x, 0, strings.Repeat("d/../", 101)+"d/l", true); e != api.ErrLoop {
		t.Error(e)
	}
	if d := time.Since(begin); d > 5*time.Second {
		t.Error(d)
	}
}

// somePath is one of some parts.
func somePath(r *rand.Rand) string {
	l := []string{"a", "b", "c", "a", "b", "c", ".", "..", "..", "", long64}
	s := l[r.Intn(len(l))]
	for range r.Intn(5) {
		s += "/" + l[r.Intn(len(l))]
	}
	return s
}

// grown is a tree of directories, files and links as they come.
func grown(r *rand.Rand) api.Tree {
	x := tree.New()
	for range 2 + r.Intn(30) {
		target := ""
		kind := []int{api.NodeFile, api.NodeDir, api.NodeDir, api.NodeLink, api.NodeLink, api.NodeLink}[r.Intn(6)]
		if kind == api.NodeLink {
			target = somePath(r)
		}
		s := []string{"a", "b", "c", long64}[r.Intn(4)]
		if y, _, e := tree.Make(x, r.Intn(len(x.Nodes)), s, kind, target, 0); e == api.OK {
			x = y
		}
	}
	return x
}

// atOrBelow tells whether node is dir or below it.
func atOrBelow(x api.Tree, node, dir int) bool {
	if node == dir {
		return true
	}
	for _, n := range x.Nodes[dir].Names {
		if atOrBelow(x, node, n.Node) {
			return true
		}
	}
	return false
}

// TestRandom: random trees and paths; what is told is at or below the first directory, and parts that are . change nothing.
func TestRandom(t *testing.T) {
	t.Parallel()
	r := rand.New(rand.NewSource(14))
	told := map[api.Errno]int{}
	for range 3000 {
		x := grown(r)
		for range 60 {
			dir, s, follow := r.Intn(len(x.Nodes)), somePath(r), r.Intn(2) == 0
			w, e := ask(t, x, dir, s, follow)
			told[e]++
			if e == api.OK && (!atOrBelow(x, w.Dir, dir) || w.Node != -1 && !atOrBelow(x, w.Node, dir)) {
				t.Fatalf("%d, %q, %v: %+v is outside\n%+v", dir, s, follow, w, x)
			}
			if s[:min(1, len(s))] != "/" && s != "" {
				if dw, de := Resolve(x, dir, "./"+strings.ReplaceAll(s, "/", "/.//./"), follow); !strings.HasSuffix(s, "/") && (dw != w || de != e) {
					t.Fatalf("%d, %q, %v: with . as parts %+v, %d, not %+v, %d", dir, s, follow, dw, de, w, e)
				}
			}
		}
	}
	for _, e := range []api.Errno{api.OK, api.ErrNotdir, api.ErrNoent, api.ErrNotcap, api.ErrLoop} {
		if told[e] < 1000 {
			t.Errorf("%d: %d times", e, told[e])
		}
	}
}
