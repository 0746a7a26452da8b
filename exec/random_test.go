package exec

import (
	"bytes"
	"encoding/binary"
	"fmt"
	"math/rand"
	"testing"

	"gangway/api"
	"gangway/mem"
)

// asked is what a machine's imported function was called with, and answers.
type asked struct {
	number       int
	vals, answer []int64
}

// host answers calls of imported functions: what it answers hangs on how often it was called alone.
type host struct {
	kinds []api.FuncType // of the imported functions
	calls []asked
	write func(b []byte) // to the memory's beginning
}

func (h *host) answer(number int, vals []int64) []int64 {
	n := int64(len(h.calls))
	if h.write != nil {
		b := binary.LittleEndian.AppendUint64(nil, uint64(n*0x0102030405060708))
		h.write(b)
	}
	answer := make([]int64, len(h.kinds[number].Results))
	for k, kind := range h.kinds[number].Results {
		answer[k] = n*7 - 9
		if kind == api.I64 {
			answer[k] <<= 33
		}
	}
	h.calls = append(h.calls, asked{number, append([]int64(nil), vals...), append([]int64(nil), answer...)})
	return answer
}

// seen is all that can be seen of a machine behind a run.
func seen(s api.Stop, spent int, globals []int64, calls []asked) string {
	return fmt.Sprint(s, spent, globals, calls)
}

func everything(t *testing.T, m *mem.Memory) []byte {
	t.Helper()
	if m == nil {
		return nil
	}
	b, e := m.Read(0, m.Size()*65536)
	if e != api.OK {
		t.Fatalf("Read: %d", e)
	}
	return b
}

// drive runs a machine, with pieces of fuel, till it does nothing, or no fuel is left of it all.
func drive(t *testing.T, x *Machine, h *host, fuel int, piece func() int) api.Stop {
	t.Helper()
	for {
		part := min(fuel, piece())
		was := x.Spent()
		s, e := x.Run(part)
		paid := x.Spent() - was
		if e != api.OK || paid < 0 || paid > part || s.Kind == api.StopFuel && paid != part {
			t.Fatalf("Run(%d): %v, %d, paid %d", part, s, e, paid)
		}
		fuel -= paid
		switch {
		case s.Kind == api.StopHost:
			if e := x.Answer(h.answer(s.Func, s.Vals)); e != api.OK {
				t.Fatalf("Answer: %d", e)
			}
		case s.Kind != api.StopFuel || fuel == 0:
			return s
		}
	}
}

func importedKinds(m api.Module) (l []api.FuncType) {
	for _, i := range m.Imports {
		l = append(l, m.Types[i.Type])
	}
	return l
}

// TestRandom holds modules, with all their functions called one behind the other, against the model: with all fuel at once, and in parts (P10.1 to P10.5).
func TestRandom(t *testing.T) {
	g := &maker{r: rand.New(rand.NewSource(10))}
	told := map[string]int{}
	for range 2500 {
		m, c := g.module()
		whole, e := New(m, c)
		parts, e2 := New(m, c)
		if e != api.OK || e2 != api.OK {
			t.Fatalf("%v: %d", m, e)
		}
		v := newModel(m, c)
		kinds := importedKinds(m)
		hosts := [3]*host{{kinds: kinds}, {kinds: kinds}, {kinds: kinds}}
		hosts[0].write = func(b []byte) { copy(v.memory, b) }
		hosts[1].write = func(b []byte) { whole.Memory().Write(0, b) }
		hosts[2].write = func(b []byte) { parts.Memory().Write(0, b) }
		v.host = hosts[0].answer
		for k := range m.Funcs {
			number := len(m.Imports) + k
			vals := g.somes(g.kinds[number].Params)
			fuel := []int{g.r.Intn(10), 100, 300, 1000, 3000}[g.r.Intn(5)]
			want := v.run(number, vals, fuel)
			model := seen(want, v.spent, v.globals, hosts[0].calls)
			if whole.Call(number, vals) != api.OK || parts.Call(number, vals) != api.OK {
				t.Fatalf("%v: Call of %d with %v", m, number, vals)
			}
			s := drive(t, whole, hosts[1], fuel, func() int { return fuel })
			if got := seen(s, whole.Spent(), whole.Globals(), hosts[1].calls); got != model || !bytes.Equal(everything(t, whole.Memory()), v.memory) {
				t.Fatalf("%v: %d with %v and %d: %s, not %s", m, number, vals, fuel, got, model)
			}
			s = drive(t, parts, hosts[2], fuel, func() int { return g.r.Intn(4) })
			if got := seen(s, parts.Spent(), parts.Globals(), hosts[2].calls); got != model || !bytes.Equal(everything(t, parts.Memory()), v.memory) {
				t.Fatalf("%v: %d with %v and %d in parts: %s, not %s", m, number, vals, fuel, got, model)
			}
			told[fmt.Sprint(want.Kind, want.Why)]++
			if len(hosts[0].calls) > 0 {
				told["host"]++
			}
			if want.Kind == api.StopFuel {
				break // it is not doing nothing
			}
		}
	}
	for _, end := range []string{"1 0", "3 1", "3 2", "3 3", "3 4", "3 5", "3 6", "4 0", "5 0", "host"} {
		if told[end] < 20 {
			t.Errorf("%s: only %d", end, told[end])
		}
	}
	t.Log(told)
}
