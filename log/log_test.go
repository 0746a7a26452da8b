package log

import (
	"bytes"
	"fmt"
	"math/rand"
	"slices"
	"testing"

	"gangway/api"
	"gangway/disk"
)

const size = 64

func noughts(t *testing.T, count int, at ...int) *disk.Disk {
	t.Helper()
	return diskOf(t, make([]byte, count*size), at...)
}

func diskOf(t *testing.T, image []byte, at ...int) *disk.Disk {
	t.Helper()
	var l []api.Trouble
	for _, n := range at {
		l = append(l, api.Trouble{At: n})
	}
	d, e := disk.New(image, l)
	if e != api.OK {
		t.Fatalf("disk: %d", e)
	}
	return d
}

func open(t *testing.T, d *disk.Disk) *Log {
	t.Helper()
	l, r, e := Open(d)
	if e != api.OK || l == nil || show(r) != show(l.Records()) {
		t.Fatalf("Open: %q, %d", r, e)
	}
	return l
}

// found tells what a log finds on an image, and holds that it finds it twice.
func found(t *testing.T, image []byte) string {
	t.Helper()
	d := diskOf(t, image)
	s := show(open(t, d).Records())
	for _, again := range []*disk.Disk{d, diskOf(t, d.Crash(nil))} {
		if s2 := show(open(t, again).Records()); s2 != s {
			t.Fatalf("%s, again %s", s, s2)
		}
	}
	return s
}

func show(r [][]byte) string { return fmt.Sprintf("%q", r) }

func rows(s ...string) [][]byte {
	var l [][]byte
	for _, x := range s {
		l = append(l, []byte(x))
	}
	return l
}

func ones(n int) []int { return slices.Repeat([]int{1}, n) }

// weight is what the document counts: the bytes, and 16 for each record.
func weight(r [][]byte) int {
	n := 0
	for _, x := range r {
		n += len(x) + 16
	}
	return n
}

// hasRoom is the document's promise: what must not be refused.
func hasRoom(count int, r [][]byte) bool {
	return 3*weight(r) <= count*size-1024
}

// TestExample tells the chapter's: Append a, Sync, Append b, a crash: a, or a and b.
func TestExample(t *testing.T) {
	d := noughts(t, 100)
	l := open(t, d)
	if l.Append([]byte("a")) != api.OK || l.Sync() != api.OK || l.Append([]byte("b")) != api.OK {
		t.Fatal("power")
	}
	for _, picks := range [][]int{nil, {0}, {1}, ones(100)} {
		if s := found(t, d.Crash(picks)); s != show(rows("a")) && s != show(rows("a", "b")) {
			t.Errorf("%v: %s", picks, s)
		}
	}
}

// TestOpen: disks of noughts, no disk, no power (P12.1).
func TestOpen(t *testing.T) {
	for _, count := range []int{1, 2, 3, 4, 5, 6, 15, 16, 17, 18, 100, 16383, 16384} {
		if l, r, e := Open(noughts(t, count)); e != api.OK || l == nil || len(r) != 0 || len(l.Records()) != 0 {
			t.Errorf("%d: %q, %d", count, r, e)
		}
	}
	if l, r, e := Open(nil); l != nil || r != nil || e != api.ErrForm {
		t.Errorf("%q, %d", r, e)
	}
	for _, image := range [][]byte{make([]byte, 40*size), bytes.Repeat([]byte{7}, 40*size)} {
		d := diskOf(t, image, 1)
		d.Flush()
		if l, r, e := Open(d); l != nil || r != nil || e != api.ErrPower {
			t.Errorf("%q, %d", r, e)
		}
	}
}

// TestAppend: records of many lengths, found again behind Sync whatever is lost (P12.2, P12.3).
func TestAppend(t *testing.T) {
	d := noughts(t, 2000)
	l := open(t, d)
	var want [][]byte
	for n := range 140 {
		r := bytes.Repeat([]byte{byte(n)}, n)
		if n%3 == 0 {
			r = append(make([]byte, n), 255)
		}
		want = append(want, r)
		if e := l.Append(r); e != api.OK {
			t.Fatalf("%d: %d", n, e)
		}
		if s := show(l.Records()); s != show(want) {
			t.Fatalf("%d: %s", n, s)
		}
		if e := l.Sync(); e != api.OK {
			t.Fatalf("%d: %d", n, e)
		}
		if s := found(t, d.Crash(nil)); s != show(want) {
			t.Fatalf("%d: %s", n, s)
		}
	}
}

// TestEmpty: a record of no bytes is one, nil or not.
func TestEmpty(t *testing.T) {
	d := noughts(t, 100)
	l := open(t, d)
	l.Append(nil)
	l.Append([]byte{})
	l.Append(make([]byte, 3))
	l.Append(nil)
	l.Sync()
	want := show([][]byte{{}, {}, {0, 0, 0}, {}})
	if s := found(t, d.Crash(nil)); s != want || show(l.Records()) != want {
		t.Errorf("%s", s)
	}
	l.Replace([][]byte{nil, {}})
	l.Sync()
	want = show([][]byte{{}, {}})
	if s := found(t, d.Crash(nil)); s != want || show(l.Records()) != want {
		t.Errorf("%s", s)
	}
}

// TestReplace: again and again, by more and by fewer, with Appends behind (P12.2).
func TestReplace(t *testing.T) {
	d := noughts(t, 300)
	l := open(t, d)
	for k := range 60 {
		var want [][]byte
		for i := range (k * 7) % 11 {
			want = append(want, bytes.Repeat([]byte{byte(k)}, (i*k)%150))
		}
		if e := l.Replace(want); e != api.OK || show(l.Records()) != show(want) {
			t.Fatalf("%d: %d", k, e)
		}
		for i := range k % 4 {
			want = append(want, bytes.Repeat([]byte{byte(i)}, 33*i))
			if e := l.Append(want[len(want)-1]); e != api.OK {
				t.Fatalf("%d: %d", k, e)
			}
		}
		if e := l.Sync(); e != api.OK || show(l.Records()) != show(want) {
			t.Fatalf("%d: %d", k, e)
		}
		if s := found(t, d.Crash(nil)); s != show(want) {
			t.Fatalf("%d: %s", k, s)
		}
	}
	if e := l.Replace(nil); e != api.OK || len(l.Records()) != 0 {
		t.Errorf("%d", e)
	}
	if e := l.Replace([][]byte{}); e != api.OK || len(l.Records()) != 0 {
		t.Errorf("%d", e)
	}
	l.Sync()
	if s := found(t, d.Crash(nil)); s != show(nil) {
		t.Errorf("%s", s)
	}
}

// TestWithoutCrash: a log over a disk that another one has written tells what was left there, synced or not.
func TestWithoutCrash(t *testing.T) {
	d := noughts(t, 200)
	var want [][]byte
	for k := range 20 {
		l := open(t, d)
		if show(l.Records()) != show(want) {
			t.Fatalf("%d: %s", k, show(l.Records()))
		}
		if k%5 == 4 {
			want = want[len(want)-2:]
			l.Replace(want)
		}
		want = append(want, bytes.Repeat([]byte{'a' + byte(k)}, 9*k))
		l.Append(want[len(want)-1])
	}
}

// TestToldIsSafe: what Open tells of a disk with unsafe sectors is told behind a crash, too (P12.4).
func TestToldIsSafe(t *testing.T) {
	d := noughts(t, 200)
	l := open(t, d)
	l.Append([]byte("a"))
	l.Append(bytes.Repeat([]byte("b"), 300))
	want := show(open(t, d).Records())
	if s := found(t, d.Crash(nil)); s != want {
		t.Errorf("%s", s)
	}
}

// TestSharing: nothing that is handed in or told is kept (R2).
func TestSharing(t *testing.T) {
	d := noughts(t, 200)
	l := open(t, d)
	one, two := []byte("one"), [][]byte{[]byte("two"), []byte("three"), nil}
	l.Append(one)
	one[0] = '!'
	if show(l.Records()) != show(rows("one")) {
		t.Errorf("%q", l.Records())
	}
	l.Replace(two)
	two[0][0], two[1] = '!', []byte("other")
	want := show(rows("two", "three", ""))
	if show(l.Records()) != want {
		t.Errorf("%q", l.Records())
	}
	l.Sync()
	d = diskOf(t, d.Crash(nil))
	l, told, _ := Open(d)
	for range 3 {
		scribble(told)
		if show(l.Records()) != want {
			t.Errorf("%q", l.Records())
		}
		told = l.Records()
	}
	l.Append([]byte("four"))
	want = show(rows("two", "three", "", "four"))
	scribble(told)
	if show(l.Records()) != want || found(t, d.Crash(ones(200))) != want {
		t.Errorf("%q", l.Records())
	}
}

// scribble writes over all of a list, spare room too.
func scribble(l [][]byte) {
	for _, r := range l {
		r = r[:cap(r)]
		for i := range r {
			r[i] = '#'
		}
	}
	l = l[:cap(l)]
	for i := range l {
		l[i] = []byte("#")
	}
}

// TestHandedIn: it is not changed, spare room neither (R2).
func TestHandedIn(t *testing.T) {
	l := open(t, noughts(t, 200))
	room := []byte("record and more")
	list := [][]byte{room[:6], nil, room[7:10], room}
	l.Append(room[:6])
	l.Replace(list[:2])
	l.Append(room[:2])
	l.Records()
	if string(room) != "record and more" || show(list) != show([][]byte{[]byte("record"), nil, []byte("and"), room}) {
		t.Errorf("%q", list)
	}
}

// TestRoom: no disk refuses what is within a third of its room, in records of any length; what is refused changes nothing (P12.2).
func TestRoom(t *testing.T) {
	counts := []int{100, 333, 1000}
	for count := range 64 {
		counts = append(counts, count+1)
	}
	for _, count := range counts {
		for _, long := range []int{0, 1, 5, 7, 8, 9, 47, 48, 49, 63, 64, 65, 100, 1000} {
			fill(t, count, long)
		}
	}
}

func fill(t *testing.T, count, long int) {
	d := noughts(t, count)
	l := open(t, d)
	r := bytes.Repeat([]byte{255}, long)
	var now [][]byte
	for {
		before, strokes := d.Crash(ones(count)), d.Strokes()
		next := append(slices.Clone(now), r)
		e := l.Append(r)
		if e == api.OK && weight(next) < count*size {
			now = next
			continue
		}
		if e != api.ErrNospc || hasRoom(count, next) || d.Strokes() != strokes || !bytes.Equal(d.Crash(ones(count)), before) {
			t.Fatalf("%d sectors, %d times %d: %d", count, len(next), long, e)
		}
		checkRefused(t, d, l, now, next)
		break
	}
	if e := l.Replace(now); e != api.OK && hasRoom(count, now) {
		t.Fatalf("%d sectors, %d times %d: %d", count, len(now), long, e)
	}
	l.Sync()
	if s := found(t, d.Crash(nil)); s != show(now) {
		t.Fatalf("%d sectors, %d times %d: %s", count, len(now), long, s)
	}
}

// checkRefused holds that a list that is too much is not put in the place of the records either, and that a shorter one is.
func checkRefused(t *testing.T, d *disk.Disk, l *Log, now, more [][]byte) {
	t.Helper()
	strokes := d.Strokes()
	if e := l.Replace(more); e != api.ErrNospc || show(l.Records()) != show(now) || d.Strokes() != strokes {
		t.Fatalf("%d sectors, %d records: %d", d.Count(), len(more), e)
	}
	if len(now) == 0 {
		return
	}
	if e := l.Replace(now[1:]); e != api.OK || show(l.Records()) != show(now[1:]) {
		t.Fatalf("%d sectors, %d records: %d", d.Count(), len(now)-1, e)
	}
	if e := l.Append(now[0]); e != api.OK || show(l.Records()) != show(now) {
		t.Fatalf("%d sectors, %d records: %d", d.Count(), len(now), e)
	}
}

// TestOneRecord: the longest record that each disk must hold, and one byte more.
func TestOneRecord(t *testing.T) {
	for _, count := range []int{17, 18, 19, 20, 21, 50, 51, 52, 100, 16382, 16383, 16384} {
		long := (count*size-1024)/3 - 16
		for _, way := range []func(l *Log, r []byte) api.Errno{(*Log).Append, replaceByOne} {
			d := noughts(t, count)
			l := open(t, d)
			r := bytes.Repeat([]byte{255}, long+1)
			if e := way(l, r); e != api.ErrNospc || len(l.Records()) != 0 {
				t.Errorf("%d: %d", count, e)
			}
			if e := way(l, r[1:]); e != api.OK || l.Sync() != api.OK {
				t.Errorf("%d: %d", count, e)
			}
			if got := open(t, diskOf(t, d.Crash(nil))).Records(); len(got) != 1 || !bytes.Equal(got[0], r[1:]) {
				t.Errorf("%d: %d", count, len(got))
			}
		}
	}
}

func replaceByOne(l *Log, r []byte) api.Errno { return l.Replace([][]byte{r}) }

// TestPower: once it is off, each call is told so, ahead of all else; what the records were can be asked still.
func TestPower(t *testing.T) {
	for at := 2; at < 30; at++ {
		d := noughts(t, 100, at)
		l := open(t, d)
		want := show(nil)
		for k := 0; ; k++ {
			var e api.Errno
			next := append(l.Records(), []byte{byte(k)})
			switch k % 3 {
			case 0:
				next[len(next)-1] = bytes.Repeat([]byte{byte(k)}, 40*k%160)
				e = l.Append(next[len(next)-1])
			case 1:
				e, next = l.Sync(), next[:len(next)-1]
			case 2:
				e = l.Replace(next)
			}
			if (e == api.ErrPower) != (d.Strokes() >= at) || e != api.OK && e != api.ErrPower {
				t.Fatalf("%d: call %d, %d strokes: %d", at, k, d.Strokes(), e)
			}
			if e != api.OK {
				break
			}
			want = show(next)
		}
		long := make([]byte, 100*size)
		for _, e := range []api.Errno{l.Append(nil), l.Append(long), l.Replace(nil), l.Replace([][]byte{long}), l.Sync()} {
			if e != api.ErrPower {
				t.Errorf("%d: %d", at, e)
			}
		}
		if show(l.Records()) != want {
			t.Errorf("%d: %q, not %s", at, l.Records(), want)
		}
	}
}

// TestNoise: disks that no log wrote (P12.1): it ends, and what it takes for a log is one.
func TestNoise(t *testing.T) {
	random := rand.New(rand.NewSource(12))
	for k := range 2000 {
		image := make([]byte, size*(1+random.Intn(40)))
		if k%2 == 0 && len(image) > size {
			random.Read(image[random.Intn(2)*size:])
		}
		for range random.Intn(40) {
			image[random.Intn(len(image))] = byte(random.Intn(1 << random.Intn(9)))
		}
		d := diskOf(t, image)
		l, r, e := Open(d)
		if e == api.ErrForm {
			if l != nil || r != nil {
				t.Fatalf("%d: %q", k, r)
			}
			continue
		}
		if e != api.OK || show(r) != show(l.Records()) || found(t, d.Crash(nil)) != show(r) {
			t.Fatalf("%d: %q, %d", k, r, e)
		}
		want := append(r, []byte("more"))
		if e := l.Append([]byte("more")); e == api.OK {
			if s := found(t, d.Crash(ones(40))); s != show(want) {
				t.Fatalf("%d: %s", k, s)
			}
		} else if e != api.ErrNospc || hasRoom(d.Count(), want) {
			t.Fatalf("%d: %d", k, e)
		}
	}
}

// TestNone: logs and disks that nobody made do no harm.
func TestNone(t *testing.T) {
	if l, r, e := Open(new(disk.Disk)); l != nil || r != nil || e == api.OK {
		t.Errorf("%d", e)
	}
	l := new(Log)
	for _, e := range []api.Errno{l.Append(nil), l.Replace(nil), l.Sync()} {
		if e == api.OK {
			t.Error("done")
		}
	}
	if len(l.Records()) != 0 {
		t.Errorf("%q", l.Records())
	}
}
