package log

import (
	"bytes"
	"math/rand"
	"slices"
	"testing"

	"gangway/api"
	"gangway/disk"
)

// A deed is what is asked of a log: append a record, replace all, or sync.
type deed struct {
	name    byte
	records [][]byte
}

// world is the model: what the records are, and what may be found behind a crash.
type world struct {
	now [][]byte
	can map[string]bool
}

func worldOf(now [][]byte) *world {
	return &world{now: now, can: map[string]bool{show(now): true}}
}

// do asks it of the log, and counts what may be found from now on: of a call in flight, whether it was done or not.
func (w *world) do(t *testing.T, l *Log, x deed) api.Errno {
	t.Helper()
	next := slices.Clone(w.now)
	var e api.Errno
	switch x.name {
	case 'a':
		next = append(next, x.records[0])
		e = l.Append(x.records[0])
	case 'r':
		next = x.records
		e = l.Replace(x.records)
	case 's':
		e = l.Sync()
	}
	if e == api.OK && x.name == 's' {
		clear(w.can)
	}
	w.can[show(next)] = true
	if e == api.OK {
		w.now = next
	} else if e != api.ErrPower {
		t.Fatalf("%c: %d", x.name, e)
	}
	if show(l.Records()) != show(w.now) {
		t.Fatalf("%c: %q, not %q", x.name, l.Records(), w.now)
	}
	return e
}

// unsafe tells how many sectors of d may be lost.
func unsafeOf(d *disk.Disk) int {
	safe, seen := d.Crash(nil), d.Crash(ones(d.Count()))
	n := 0
	for i := 0; i < len(safe); i += size {
		if !bytes.Equal(safe[i:i+size], seen[i:i+size]) {
			n++
		}
	}
	return n
}

// pickings are all rows of picks that a crash of d can tell apart, or, if these are many, some.
func pickings(d *disk.Disk, random *rand.Rand, many int) [][]int {
	n := unsafeOf(d)
	var l [][]int
	if n < 12 && 1<<n <= many {
		for k := range 1 << n {
			p := make([]int, n)
			for i := range p {
				p[i] = k >> i & 1
			}
			l = append(l, p)
		}
		return l
	}
	l = append(l, nil, ones(n))
	for i := range min(n, many/4) {
		but := ones(n)
		but[i] = 0
		l = append(l, but, append(make([]int, i), 1))
	}
	for len(l) < many {
		p := make([]int, n)
		for i := range p {
			p[i] = random.Intn(2)
		}
		l = append(l, p)
	}
	return l
}

// crashes holds an image's finding to what it can be, then with the power going at each stroke of Open; then the deeds are done there once more, and the power goes at each of their strokes.
func (w *world) crashes(t *testing.T, image []byte, deeds []deed, random *rand.Rand, deep int) {
	t.Helper()
	d := diskOf(t, image)
	l, r, e := Open(d)
	if e != api.OK || !w.can[show(r)] {
		t.Fatalf("%q, %d, not of %v", r, e, w.can)
	}
	after := worldOf(r)
	for at := 1; at <= d.Strokes(); at++ {
		d := diskOf(t, image, at)
		if l, r, e := Open(d); l != nil || r != nil || e != api.ErrPower {
			t.Fatalf("%d: %q, %d", at, r, e)
		}
		for _, p := range pickings(d, random, 8) {
			if s := show(open(t, diskOf(t, d.Crash(p))).Records()); !after.can[s] {
				t.Fatalf("Open, stroke %d, %v: %s, not of %v", at, p, s, after.can)
			}
		}
	}
	for _, x := range deeds {
		if deep == 0 || after.do(t, l, x) != api.OK {
			break
		}
	}
	for at := d.Strokes(); deep > 0 && at > 0; at-- {
		playAt(t, image, at, deeds, random, deep-1)
	}
}

// playAt opens a log on image, and does the deeds until the power goes at that stroke; then come the crashes.
func playAt(t *testing.T, image []byte, at int, deeds []deed, random *rand.Rand, deep int) bool {
	t.Helper()
	d := diskOf(t, image, at)
	l, r, e := Open(d)
	w := worldOf(r)
	if e != api.OK {
		w = worldOf(open(t, diskOf(t, image)).Records())
	}
	for i := 0; e == api.OK && i < len(deeds); i++ {
		e = w.do(t, l, deeds[i])
	}
	many := 32
	if deep > 0 {
		many = 4
	}
	for _, p := range pickings(d, random, many) {
		w.crashes(t, d.Crash(p), deeds, random, deep)
	}
	return e == api.ErrPower
}

func playAll(t *testing.T, count int, deeds []deed, random *rand.Rand, deep int) {
	t.Helper()
	for at := 1; playAt(t, make([]byte, count*size), at, deeds, random, deep); at++ {
	}
}

func filled(n int, b byte) []byte { return bytes.Repeat([]byte{b}, n) }

// scripts are some that lean on the edges: ends of sectors, noughts, records that another one stood in the place of.
func scripts() [][]deed {
	add := func(r ...byte) deed { return deed{'a', [][]byte{r}} }
	all := func(r ...[]byte) deed { return deed{'r', r} }
	sync := deed{'s', nil}
	return [][]deed{
		{add('a'), sync, add('b'), add('c')},
		{add(filled(56, 1)...), add(filled(56, 2)...), sync, add(filled(56, 3)...), add(filled(57, 4)...), add(filled(55, 5)...)},
		{add(filled(120, 1)...), add(filled(120, 2)...), add(), add()},
		{add(filled(130, 0)...), add(append(filled(70, 0), 1)...), add(append(filled(1, 9), filled(130, 0)...)...)},
		{add(48, 0, 0, 0), add(filled(48, 3)...), add(), sync, add(), add(filled(48, 255)...)},
		{all(filled(56, 1), filled(56, 2)), add(filled(56, 3)...), add(filled(56, 4)...), sync, all(filled(56, 1))},
		{all(filled(56, 1)), sync, all(filled(56, 1), filled(56, 2), filled(56, 3)), all(filled(56, 1)), add(filled(56, 2)...)},
		{all(filled(70, 1), filled(70, 2)), all(), add(filled(70, 1)...), all(filled(70, 1)), add(filled(70, 2)...)},
		{all(), all(), all(), sync, sync, all()},
	}
}

// TestCrashes: the power goes at each stroke, then at each of what is done behind it (P12.4).
func TestCrashes(t *testing.T) {
	t.Parallel()
	random := rand.New(rand.NewSource(124))
	for _, deeds := range scripts() {
		playAll(t, 70, deeds, random, 0)
		playAll(t, 70, deeds, random, 1)
	}
}

// TestRandomCrashes: likewise for scripts by chance.
func TestRandomCrashes(t *testing.T) {
	t.Parallel()
	random := rand.New(rand.NewSource(1240))
	record := func() []byte {
		r := make([]byte, []int{0, 1, 8, 48, 56, 57, 120, 200}[random.Intn(8)])
		if random.Intn(3) > 0 {
			random.Read(r)
		}
		return r
	}
	for range 25 {
		var deeds []deed
		for range 3 + random.Intn(5) {
			switch random.Intn(4) {
			case 0:
				deeds = append(deeds, deed{'s', nil})
			case 1:
				var l [][]byte
				for range random.Intn(4) {
					l = append(l, record())
				}
				deeds = append(deeds, deed{'r', l})
			default:
				deeds = append(deeds, deed{'a', [][]byte{record()}})
			}
		}
		playAll(t, 150, deeds, random, 0)
	}
}

// TestOneHistory: a long one on one disk, with crashes and without; what was told OK by Sync never goes (P12.3, P12.4).
func TestOneHistory(t *testing.T) {
	random := rand.New(rand.NewSource(125))
	image := make([]byte, 120*size)
	w := worldOf(nil)
	for range 600 {
		d := diskOf(t, image, 1+random.Intn(60))
		l, r, e := Open(d)
		if e == api.OK {
			if !w.can[show(r)] {
				t.Fatalf("%q, not of %v", r, w.can)
			}
			w = worldOf(r)
		} else if e != api.ErrPower {
			t.Fatal(e)
		}
		for e == api.OK {
			x := deed{'a', [][]byte{filled(random.Intn(100), byte(random.Intn(3)))}}
			if n := random.Intn(8); n == 0 {
				x.name = 's'
			} else if n < 3 || !hasRoom(120, append(l.Records(), x.records[0])) {
				x.name = 'r'
			}
			e = w.do(t, l, x)
		}
		picks := make([]int, 120)
		for i := range picks {
			picks[i] = random.Intn(2)
		}
		image = d.Crash(picks)
	}
}
