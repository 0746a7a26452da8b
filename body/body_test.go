package body

import (
	"fmt"
	"math"
	"math/rand"
	"reflect"
	"slices"
	"strings"
	"testing"

	"gangway/api"
)

type in = api.Instr

// kinds reads types: i for I32, l for I64.
func kinds(text string) []int {
	var l []int
	for k := range text {
		l = append(l, kindOf(text[k:k+1]))
	}
	return l
}

func typeOf(params, results string) api.FuncType {
	return api.FuncType{Params: kinds(params), Results: kinds(results)}
}

// of is a body of no function's company: with that result, and those locals.
func of(result, locals string) around {
	return around{f: typeOf("", result), locals: kinds(locals)}
}

// full has something of everything around a body.
func full(params, result, locals string) around {
	return around{
		funcs:   []api.FuncType{typeOf("", ""), typeOf("il", "i"), typeOf("l", "l"), typeOf("li", "")},
		types:   []api.FuncType{typeOf("l", "i"), typeOf("", "l"), typeOf("ii", "")},
		globals: []api.Global{{Type: api.I32}, {Type: api.I64, Mut: true}, {Type: api.I32, Mut: true}, {Type: api.I64}},
		table:   true, memory: true,
		f: typeOf(params, result), locals: kinds(locals),
	}
}

// put makes instructions that put constants of these types.
func put(text string, more ...in) []in {
	var l []in
	for _, x := range text {
		if x == 'i' {
			l = append(l, in{Op: 0x41, Val: -1})
		} else {
			l = append(l, in{Op: 0x42, Val: -1})
		}
	}
	return append(l, more...)
}

func hold(t *testing.T, want api.Errno, a around, l ...in) {
	t.Helper()
	if e := a.check(l...); e != want {
		t.Errorf("%v with %v: %d, not %d", l, a, e, want)
	}
}

func holdValid(t *testing.T, a around, l ...in) {
	t.Helper()
	hold(t, api.OK, a, l...)
}

func holdInvalid(t *testing.T, a around, l ...in) {
	t.Helper()
	hold(t, api.ErrType, a, l...)
}

// holdShape: behind up to four constants, i takes just these types and puts just these.
func holdShape(t *testing.T, a around, i in, take, puts string) {
	t.Helper()
	for _, result := range []string{"", "i", "l"} {
		a.f.Results = kinds(result)
		for n := 0; n <= 4; n++ {
			for bits := range 1 << n {
				text := ""
				for k := range n {
					text += "il"[bits>>k&1 : bits>>k&1+1]
				}
				want := api.ErrType
				if rest, ok := strings.CutSuffix(text, take); ok && rest+puts == result {
					want = api.OK
				}
				hold(t, want, a, put(text, i)...)
			}
		}
	}
}

// TestExamples tells the chapter's.
func TestExamples(t *testing.T) {
	holdValid(t, of("", ""), in{Op: 0x41}, in{Op: 0x1a})
	for _, result := range []string{"", "i", "l"} {
		holdInvalid(t, of(result, ""), in{Op: 0x6a})
	}
	holdValid(t, of("i", ""), in{Op: 0x00}, in{Op: 0x6a})
	holdInvalid(t, of("l", ""), in{Op: 0x00}, in{Op: 0x6a})
	holdInvalid(t, of("", ""), in{Op: 0x00}, in{Op: 0x6a})
}

// TestResult: a function's result stands on the stack at its end, and nothing more.
func TestResult(t *testing.T) {
	for _, result := range []string{"", "i", "l"} {
		for _, left := range []string{"", "i", "l", "ii", "il", "li", "ll"} {
			want := api.ErrType
			if result == left {
				want = api.OK
			}
			hold(t, want, of(result, ""), put(left)...)
			hold(t, want, of(result, ""), put(left, in{Op: 0x01})...)
		}
	}
}

// TestForm: types that are none, more results than one, no instructions: ErrForm, whatever else is wrong.
func TestForm(t *testing.T) {
	invalids := [][]in{nil, {{Op: 0x1a}}}
	for _, l := range invalids {
		for _, kind := range []int{0, -1, 1, 0x40, 0x70, 0x7d, 0x80, -0x7f, 0x7f + 1<<8, 0x7f + 1<<32, math.MinInt, math.MaxInt} {
			for _, c := range []around{
				{funcs: []api.FuncType{{}, {Params: []int{api.I64, kind}}}},
				{funcs: []api.FuncType{{}, {Results: []int{kind}}}},
				{types: []api.FuncType{{}, {Params: []int{api.I32, kind}}}},
				{types: []api.FuncType{{Results: []int{kind}}}},
				{globals: []api.Global{{Type: api.I32}, {Type: kind}}},
				{f: api.FuncType{Params: []int{api.I32, kind}}},
				{f: api.FuncType{Results: []int{kind}}},
				{locals: []int{api.I64, kind}},
				{locals: append(make([]int, 0), slices.Repeat([]int{kind}, 65)...)},
			} {
				hold(t, api.ErrForm, c, l...)
			}
		}
		for _, two := range []string{"ii", "il", "lll"} {
			hold(t, api.ErrForm, around{funcs: []api.FuncType{{}, typeOf("", two)}}, l...)
			hold(t, api.ErrForm, around{types: []api.FuncType{typeOf("", two)}}, l...)
			hold(t, api.ErrForm, around{f: typeOf("", two)}, l...)
		}
	}
	hold(t, api.ErrForm, of("ii", ""), put("ii")...)
	for _, wrong := range []in{
		{Op: 0x05}, {Op: 0x0b}, {Op: 0xff}, {Op: 256}, {Op: -1}, {Op: 0x2a}, {Op: 0x43}, {Op: 0x5b}, {Op: 0xae}, {Op: 0x02}, {Op: 0x01, Index: 1},
		{Op: 0x20, Index: -1}, {Op: 0x0c, Index: -1}, {Op: 0x10, Index: 1 << 32}, {Op: 0x28, Align: -1}, {Op: 0x41, Val: 1 << 31}, {Op: 0x0e, Labels: []int{-1}},
	} {
		hold(t, api.ErrForm, full("", "", "i"), wrong)
		hold(t, api.ErrForm, full("", "", "i"), in{Op: 0x1a}, wrong)
		hold(t, api.ErrForm, full("", "", "i"), in{Op: 0x02, Type: api.None, Body: []in{{Op: 0x1a}, wrong}})
		hold(t, api.ErrForm, around{locals: slices.Repeat([]int{api.I32}, 65)}, wrong)
	}
}

// TestEmptyInit: of a global nothing is asked but its type.
func TestEmptyInit(t *testing.T) {
	for _, init := range []in{{}, {Op: 0x42}, {Op: -7, Index: -1}} {
		holdValid(t, around{globals: []api.Global{{Type: api.I32, Init: init}}}, in{Op: 0x23}, in{Op: 0x1a})
	}
}

// TestPlain: what the operations on numbers and the constants take and put, with and without a company.
func TestPlain(t *testing.T) {
	for op, shape := range plain() {
		holdShape(t, of("", ""), in{Op: op}, shape[0], shape[1])
		holdShape(t, full("", "", ""), in{Op: op}, shape[0], shape[1])
	}
	for _, v := range []int64{math.MinInt64, -1, 0, math.MaxInt64} {
		holdValid(t, of("l", ""), in{Op: 0x42, Val: v})
	}
	for _, v := range []int64{math.MinInt32, math.MaxInt32} {
		holdValid(t, of("i", ""), in{Op: 0x41, Val: v})
	}
}

// TestMemory: loads, stores, memory.size and memory.grow, with their greatest Align and one more, with a memory and without.
func TestMemory(t *testing.T) {
	with, without := around{memory: true}, full("", "", "")
	without.memory = false
	for op, a := range accesses() {
		take, result := "i", a.kind
		if a.store {
			take, result = "i"+a.kind, ""
		}
		for align := range 5 {
			for _, offset := range []int{0, 1, math.MaxUint32} {
				i := in{Op: op, Align: align, Offset: offset}
				with.f.Results, without.f.Results = kinds(result), kinds(result)
				if 1<<align <= a.bytes {
					holdValid(t, with, put(take, i)...)
				} else {
					holdInvalid(t, with, put(take, i)...)
				}
				holdInvalid(t, without, put(take, i)...)
			}
		}
		holdShape(t, with, in{Op: op}, take, result)
		for _, align := range []int{31, 32, 63, 64, 65, 128, 1 << 31, math.MaxUint32} {
			with.f.Results = kinds(result)
			holdInvalid(t, with, put(take, in{Op: op, Align: align})...)
		}
	}
	holdShape(t, with, in{Op: 0x3f}, "", "i")
	holdShape(t, with, in{Op: 0x40}, "i", "i")
	without.f.Results = kinds("i")
	holdInvalid(t, without, in{Op: 0x3f})
	holdInvalid(t, without, put("i", in{Op: 0x40})...)
	without.f.Results = nil
	for _, op := range []int{0x28, 0x37, 0x3f, 0x40} {
		holdInvalid(t, without, in{Op: 0x00}, in{Op: op}, in{Op: 0x00})
	}
}

// TestLocals: parameters first, then locals; 64 of both, and not one more.
func TestLocals(t *testing.T) {
	a := around{f: typeOf("il", ""), locals: kinds("li")}
	for k, kind := range []string{"i", "l", "l", "i"} {
		holdShape(t, a, in{Op: 0x20, Index: k}, "", kind)
		holdShape(t, a, in{Op: 0x21, Index: k}, kind, "")
		holdShape(t, a, in{Op: 0x22, Index: k}, kind, kind)
	}
	for _, k := range []int{4, 5, 63, 64, math.MaxUint32} {
		for op := 0x20; op <= 0x22; op++ {
			holdInvalid(t, a, in{Op: 0x00}, in{Op: op, Index: k}, in{Op: 0x00})
		}
	}
	holdInvalid(t, around{}, in{Op: 0x20}, in{Op: 0x1a})
	for params := range 131 {
		for locals := range 131 {
			c := around{f: api.FuncType{Params: slices.Repeat(kinds("l"), params)}, locals: slices.Repeat(kinds("i"), locals)}
			want := api.OK
			if params+locals > 64 {
				want = api.ErrType
			}
			hold(t, want, c)
		}
	}
	c := around{f: api.FuncType{Params: slices.Repeat(kinds("l"), 32), Results: kinds("i")}, locals: slices.Repeat(kinds("i"), 32)}
	holdValid(t, c, in{Op: 0x20, Index: 63})
	holdValid(t, c, in{Op: 0x20, Index: 32})
	holdInvalid(t, c, in{Op: 0x20, Index: 31})
	holdInvalid(t, c, in{Op: 0x20, Index: 64})
}

// TestGlobals: only what is Mut is set.
func TestGlobals(t *testing.T) {
	a := full("", "", "")
	for k, g := range a.globals {
		holdShape(t, a, in{Op: 0x23, Index: k}, "", letters(g.Type))
		if g.Mut {
			holdShape(t, a, in{Op: 0x24, Index: k}, letters(g.Type), "")
		} else {
			holdInvalid(t, a, put(letters(g.Type), in{Op: 0x24, Index: k})...)
		}
	}
	for _, k := range []int{len(a.globals), len(a.globals) + 1, math.MaxUint32} {
		holdInvalid(t, a, in{Op: 0x00}, in{Op: 0x23, Index: k}, in{Op: 0x00})
		holdInvalid(t, a, in{Op: 0x00}, in{Op: 0x24, Index: k})
	}
	holdInvalid(t, around{}, in{Op: 0x23}, in{Op: 0x1a})
}

// TestCalls: parameters are taken the last first; an indirect call needs a table, and the number on top.
func TestCalls(t *testing.T) {
	a := full("", "", "")
	for k, f := range a.funcs {
		holdShape(t, a, in{Op: 0x10, Index: k}, letters(f.Params...), letters(f.Results...))
	}
	for k, f := range a.types {
		holdShape(t, a, in{Op: 0x11, Index: k}, letters(f.Params...)+"i", letters(f.Results...))
	}
	for _, k := range []int{0, 1, 2, 3, 4, math.MaxUint32} {
		if k >= len(a.funcs) {
			holdInvalid(t, a, in{Op: 0x00}, in{Op: 0x10, Index: k}, in{Op: 0x00})
		}
		if k >= len(a.types) {
			holdInvalid(t, a, in{Op: 0x00}, in{Op: 0x11, Index: k}, in{Op: 0x00})
		}
	}
	bare := full("", "i", "")
	bare.table = false
	holdInvalid(t, bare, put("li", in{Op: 0x11})...)
	holdValid(t, bare, put("il", in{Op: 0x10, Index: 1})...)
	bare.table, bare.memory = true, false
	holdValid(t, bare, put("li", in{Op: 0x11})...)
	long := around{funcs: []api.FuncType{{Params: slices.Repeat(kinds("il"), 100)}}}
	holdValid(t, long, put(letters(long.funcs[0].Params...), in{Op: 0x10})...)
	holdInvalid(t, long, put(letters(long.funcs[0].Params[1:]...), in{Op: 0x10})...)
}

// TestDropSelect: what takes any type.
func TestDropSelect(t *testing.T) {
	a := of("", "")
	holdInvalid(t, a, in{Op: 0x1a})
	holdValid(t, a, put("i", in{Op: 0x1a})...)
	holdValid(t, a, put("l", in{Op: 0x1a})...)
	for _, c := range []struct{ take, result string }{{"iii", "i"}, {"lli", "l"}} {
		holdValid(t, of(c.result, ""), put(c.take, in{Op: 0x1b})...)
	}
	for _, take := range []string{"", "i", "l", "ii", "li", "il", "ll", "ili", "lii", "iil", "lll", "iiii", "llli"} {
		for _, result := range []string{"", "i", "l"} {
			holdInvalid(t, of(result, ""), put(take, in{Op: 0x1b})...)
		}
	}
}

// TestBlocks: a block has its own stack, and its result, and nothing more, stands there at its end.
func TestBlocks(t *testing.T) {
	for op := 0x02; op <= 0x04; op++ {
		first := ""
		if op == 0x04 {
			first = "i"
		}
		for _, result := range []string{"", "i", "l"} {
			for _, left := range []string{"", "i", "l", "ii", "li"} {
				i := in{Op: op, Type: kindOf(result), Body: put(left)}
				if op == 0x04 {
					i.Else = put(result)
				}
				want := api.ErrType
				if result == left {
					want = api.OK
				}
				hold(t, want, of(result, ""), put(first, i)...)
			}
			i := in{Op: op, Type: kindOf(result), Body: put(result), Else: nil}
			if op == 0x04 {
				i.Else = put(result)
			}
			holdShape(t, of("", ""), i, first, result)
		}
		holdInvalid(t, of("", ""), put("i"+first, in{Op: op, Type: api.None, Body: []in{{Op: 0x1a}}})...)
		holdInvalid(t, of("i", ""), put("i"+first, in{Op: op, Type: api.None, Body: []in{{Op: 0x45}}})...)
		holdValid(t, of("i", ""), put("i"+first, in{Op: op, Type: api.None})...)
		holdValid(t, of("i", ""), put("i"+first, in{Op: op, Type: api.None, Body: put("l", in{Op: 0x1a})}, in{Op: 0x45})...)
	}
}

// TestIf: Body and Else each for itself; with a result there must be an Else.
func TestIf(t *testing.T) {
	for _, result := range []string{"", "i", "l"} {
		for _, then := range []string{"", "i", "l", "ii"} {
			for _, other := range []string{"", "i", "l", "ll"} {
				want := api.ErrType
				if then == result && other == result {
					want = api.OK
				}
				hold(t, want, of(result, ""), put("i", in{Op: 0x04, Type: kindOf(result), Body: put(then), Else: put(other)})...)
			}
		}
		holdInvalid(t, of(result, ""), put("l", in{Op: 0x04, Type: kindOf(result), Body: put(result), Else: put(result)})...)
		want := api.ErrType
		if result == "" {
			want = api.OK
		}
		hold(t, want, of(result, ""), put("i", in{Op: 0x04, Type: kindOf(result), Body: []in{{Op: 0x00}}})...)
		hold(t, want, of(result, ""), put("i", in{Op: 0x04, Type: kindOf(result), Body: []in{{Op: 0x00}}, Else: []in{}})...)
		hold(t, want, of(result, ""), put("i", in{Op: 0x04, Type: kindOf(result), Body: []in{{Op: 0x00}}, Else: []in{{Op: 0x01}}})...)
		hold(t, want, of(result, ""), in{Op: 0x00}, in{Op: 0x04, Type: kindOf(result), Body: []in{{Op: 0x00}}})
		hold(t, api.OK, of(result, ""), put("i", in{Op: 0x04, Type: kindOf(result), Body: []in{{Op: 0x00}}, Else: []in{{Op: 0x00}}})...)
	}
	holdInvalid(t, of("", ""), put("i", in{Op: 0x04, Type: api.None, Body: put("i", in{Op: 0x04, Type: api.I32, Body: put("i")}, in{Op: 0x1a})})...)
}

// within puts l into a block, a loop or an if of that result, and drops that.
func within(op int, result string, l ...in) []in {
	i := in{Op: op, Type: kindOf(result), Body: l}
	all := []in{i}
	if op == 0x04 {
		all[0].Else = []in{{Op: 0x00}}
		all = put("i", all...)
	}
	if result != "" {
		all = append(all, in{Op: 0x1a})
	}
	return all
}

// TestLabels: of block and if the result, of loop none, of the function its own.
func TestLabels(t *testing.T) {
	for op := 0x02; op <= 0x04; op++ {
		for _, result := range []string{"", "i", "l"} {
			label := result
			if op == 0x03 {
				label = ""
			}
			for _, had := range []string{"", "i", "l"} {
				want := api.ErrType
				if label == "" || label == had {
					want = api.OK
				}
				hold(t, want, of("", ""), within(op, result, put(had, in{Op: 0x0c})...)...)
				hold(t, want, of("", ""), within(op, result, put(had+"i", in{Op: 0x0e})...)...)
				hold(t, want, of("", ""), within(op, result, put(had+"i", in{Op: 0x0d}, in{Op: 0x00})...)...)
				holdInvalid(t, of("", ""), within(op, result, put(had+"l", in{Op: 0x0e})...)...)
				holdInvalid(t, of("", ""), within(op, result, put(had+"l", in{Op: 0x0d}, in{Op: 0x00})...)...)
				outer := api.ErrType
				if had == "l" {
					outer = api.OK
				}
				behind := append(within(op, result, put(had, in{Op: 0x0c, Index: 1})...), in{Op: 0x00})
				hold(t, outer, of("l", ""), behind...)
				hold(t, outer, of("l", ""), append(within(op, result, put(had, in{Op: 0x0f})...), in{Op: 0x00})...)
				holdValid(t, of("", ""), within(op, result, put(had, in{Op: 0x0c, Index: 1})...)...)
				holdInvalid(t, of("", ""), within(op, result, put(had, in{Op: 0x0c, Index: 2})...)...)
			}
		}
	}
}

// TestBranches: which frames there are, and what is put behind a br_if.
func TestBranches(t *testing.T) {
	for _, result := range []string{"", "i", "l"} {
		holdValid(t, of(result, ""), put(result, in{Op: 0x0c})...)
		holdValid(t, of(result, ""), put("li"+result, in{Op: 0x0c})...)
		holdValid(t, of(result, ""), put(result, in{Op: 0x0f})...)
		holdValid(t, of(result, ""), put("li"+result, in{Op: 0x0f})...)
		holdValid(t, of(result, ""), put(result+"i", in{Op: 0x0d})...)
		holdInvalid(t, of(result, ""), put("l"+result+"i", in{Op: 0x0d})...)
		holdValid(t, of(result, ""), put("l"+result+"i", in{Op: 0x0e, Labels: []int{0, 0}})...)
		for _, k := range []int{1, 2, 40, math.MaxUint32} {
			for _, i := range []in{{Op: 0x0c, Index: k}, {Op: 0x0d, Index: k}, {Op: 0x0e, Index: k}, {Op: 0x0e, Labels: []int{k}}, {Op: 0x0e, Labels: []int{0, k, 0}}} {
				holdInvalid(t, of(result, ""), in{Op: 0x00}, i, in{Op: 0x00})
			}
		}
	}
	holdInvalid(t, of("i", ""), in{Op: 0x0c})
	holdInvalid(t, of("i", ""), in{Op: 0x0f})
	holdInvalid(t, of("i", ""), put("l", in{Op: 0x0f})...)
	holdInvalid(t, of("i", ""), put("i", in{Op: 0x0d}, in{Op: 0x00})...)
	holdInvalid(t, of("i", ""), put("i", in{Op: 0x0e}, in{Op: 0x00})...)
	// Behind a br_if the label's type is known, though what it took was not.
	holdInvalid(t, of("i", ""), in{Op: 0x00}, in{Op: 0x0d}, in{Op: 0xa7})
	holdValid(t, of("l", ""), in{Op: 0x00}, in{Op: 0x0d}, in{Op: 0x79})
	holdInvalid(t, of("i", ""), in{Op: 0x00}, in{Op: 0x0d}, in{Op: 0x0d}, in{Op: 0x50})
	deep := []in{{Op: 0x0c, Index: 40}}
	for range 40 {
		deep = []in{{Op: 0x02, Type: api.None, Body: deep}}
	}
	holdValid(t, of("", ""), deep...)
	hold(t, api.ErrForm, of("", ""), in{Op: 0x02, Type: api.None, Body: deep})
}

// TestBranchTable: all labels' types are alike, even where nothing can be reached.
func TestBranchTable(t *testing.T) {
	nest := func(l ...in) []in { // labels: 0 none (a loop of i), 1 i, 2 none, 3 l, 4 i (the function)
		l = []in{{Op: 0x03, Type: api.I32, Body: l}}
		l = []in{{Op: 0x02, Type: api.I32, Body: l}, {Op: 0x1a}}
		l = []in{{Op: 0x02, Type: api.None, Body: l}}
		l = []in{{Op: 0x02, Type: api.I64, Body: append(l, put("l")...)}, {Op: 0x1a}}
		return append(l, put("i")...)
	}
	types := []string{"", "i", "", "l", "i"}
	for a := range 6 {
		for b := range 6 {
			for c := range 6 {
				want := api.OK
				if max(a, b, c) == 5 || types[a] != types[b] || types[a] != types[c] {
					want = api.ErrType
				}
				i := in{Op: 0x0e, Labels: []int{a, b}, Index: c}
				hold(t, want, of("i", ""), nest(in{Op: 0x00}, i)...)
				for _, had := range []string{"", "i", "l"} {
					reached := want
					if want == api.OK && types[a] != "" && types[a] != had {
						reached = api.ErrType
					}
					hold(t, reached, of("i", ""), nest(put(had+"i", i)...)...)
				}
			}
		}
	}
}

// TestUnreachable: behind what does not go on, unknown types are taken, and known ones are what they are (P8.2).
func TestUnreachable(t *testing.T) {
	for _, stop := range [][]in{{{Op: 0x00}}, {{Op: 0x0c}}, {{Op: 0x0f}}, put("i", in{Op: 0x0e})} {
		behind := func(l ...in) []in { return append(slices.Clone(stop), l...) }
		in2 := func(result string, l ...in) []in {
			return []in{{Op: 0x03, Type: kindOf(result), Body: behind(l...)}, {Op: 0x00}}
		}
		for _, result := range []string{"", "i", "l"} {
			holdValid(t, of("", ""), in2(result)...)
			holdValid(t, of("", ""), in2(result, put(result)...)...)
			holdInvalid(t, of("", ""), in2(result, put("i"+result)...)...)
		}
		holdInvalid(t, of("", ""), in2("i", put("l")...)...)
		holdInvalid(t, of("", ""), in2("", put("l")...)...)
		holdValid(t, of("", ""), in2("", in{Op: 0x1a}, in{Op: 0x1a})...)
		holdValid(t, of("", ""), in2("i", in{Op: 0x6a})...)
		holdValid(t, of("", ""), in2("i", put("i", in{Op: 0x6a})...)...)
		holdInvalid(t, of("", ""), in2("i", put("l", in{Op: 0x6a})...)...)
		holdInvalid(t, of("", ""), in2("l", in{Op: 0x6a})...)
		// select: of two unknown ones unknown, of a known one that.
		for _, kind := range []string{"", "i", "l"} {
			for _, want := range []string{"i", "l"} {
				e := api.ErrType
				if kind == "" || kind == want {
					e = api.OK
				}
				hold(t, e, of("", ""), in2(want, put(kind)...)...)
				hold(t, e, of("", ""), in2(want, append(put(kind), put("i", in{Op: 0x1b})...)...)...)
				if kind != "" {
					hold(t, e, of("", ""), in2(want, append(append([]in{{Op: 0x1b}}, put(kind)...), put("i", in{Op: 0x1b})...)...)...)
				}
			}
		}
		holdValid(t, of("", ""), in2("i", in{Op: 0x1b})...)
		holdValid(t, of("", ""), in2("l", in{Op: 0x1b}, in{Op: 0x1b})...)
		holdInvalid(t, of("", ""), in2("l", put("l", in{Op: 0x1b})...)...)
		holdInvalid(t, of("", ""), in2("", in{Op: 0x1b})...)
		holdInvalid(t, of("", ""), in2("i", put("ili", in{Op: 0x1b})...)...)
		// A frame within is reached afresh.
		holdInvalid(t, of("", ""), in2("", in{Op: 0x02, Type: api.None, Body: []in{{Op: 0x1a}}})...)
		holdInvalid(t, of("", ""), in2("i", in{Op: 0x02, Type: api.I32})...)
		holdInvalid(t, of("", ""), in2("", in{Op: 0x04, Type: api.None, Body: []in{{Op: 0x00}}, Else: []in{{Op: 0x1a}}})...)
		// What stood there goes, and what is behind the frame is reached.
		holdValid(t, of("", ""), append(put("l"), in2("")...)...)
		holdInvalid(t, of("", ""), in{Op: 0x02, Type: api.None, Body: behind()}, in{Op: 0x1a})
		holdValid(t, of("", ""), put("lil", behind()...)...)
	}
}

// TestShort holds all bodies of few instructions, of some kinds, against the model.
func TestShort(t *testing.T) {
	some := []in{
		{Op: 0x00}, {Op: 0x01}, {Op: 0x0c}, {Op: 0x0d}, {Op: 0x0e}, {Op: 0x0f}, {Op: 0x1a}, {Op: 0x1b}, {Op: 0x20}, {Op: 0x21, Index: 1}, {Op: 0x22},
		{Op: 0x24, Index: 1}, {Op: 0x41}, {Op: 0x42}, {Op: 0x6a}, {Op: 0x51}, {Op: 0xac}, {Op: 0x10, Index: 1}, {Op: 0x11}, {Op: 0x37}, {Op: 0x02, Type: api.I32, Body: put("i")}, {Op: 0x0d, Index: 1},
	}
	for _, result := range []string{"", "i", "l"} {
		a := full("", result, "il")
		valid := 0
		for _, x := range some {
			for _, y := range some {
				for _, z := range some {
					for _, l := range [][]in{{x, y, z}, {{Op: 0x41}, {Op: 0x41}, x, y, z}, {{Op: 0x42}, {Op: 0x02, Type: api.I64, Body: []in{x, y, z}}, x}} {
						want := wanted(a, l)
						hold(t, want, a, l...)
						if want == api.OK {
							valid++
						}
					}
				}
			}
		}
		if valid < 500 {
			t.Errorf("%q: %d valid ones", result, valid)
		}
	}
}

// surroundings are those that random bodies are made for.
func surroundings(r *rand.Rand) around {
	text := func(n int) string {
		s := ""
		for range r.Intn(n + 1) {
			s += []string{"i", "l"}[r.Intn(2)]
		}
		return s
	}
	a := full(text(3), text(1), text(3))
	a.table, a.memory = r.Intn(4) > 0, r.Intn(4) > 0
	return a
}

// TestRandom holds bodies that are valid, and such with something changed, against the model.
func TestRandom(t *testing.T) {
	r := rand.New(rand.NewSource(8))
	count := map[api.Errno]int{}
	for range 20000 {
		g := newMaker(r, surroundings(r))
		l := g.body(1 + r.Intn(4))
		for range r.Intn(4) {
			want := wanted(g.around, l)
			hold(t, want, g.around, l...)
			count[want]++
			g.mangle(&l)
		}
		if t.Failed() {
			t.FailNow()
		}
	}
	if count[api.OK] < 5000 || count[api.ErrType] < 5000 || len(count) != 2 {
		t.Errorf("%v", count)
	}
}

// TestNops: nops, wherever they stand, change nothing (P8.2).
func TestNops(t *testing.T) {
	r := rand.New(rand.NewSource(82))
	for range 3000 {
		g := newMaker(r, surroundings(r))
		l := g.body(3)
		for range r.Intn(3) {
			g.mangle(&l)
		}
		was := g.check(l...)
		for range 5 {
			all := lists(&l)
			at := all[r.Intn(len(all))]
			*at = slices.Insert(slices.Clone(*at), r.Intn(len(*at)+1), in{Op: 0x01})
		}
		// Nops in an if's empty Else make one, of which the result is asked for as before.
		hold(t, was, g.around, l...)
		if t.Failed() {
			t.FailNow()
		}
	}
}

// TestDead: what is valid is so behind 0x00, too, and without what it takes from further ahead (P8.2).
func TestDead(t *testing.T) {
	r := rand.New(rand.NewSource(83))
	for range 5000 {
		g := newMaker(r, surroundings(r))
		l := g.body(3)
		if g.check(l...) != api.OK {
			continue
		}
		hold(t, api.OK, g.around, append(put("li", in{Op: 0x00}), l...)...)
		hold(t, api.OK, g.around, append([]in{{Op: 0x00}}, l[r.Intn(len(l)+1):]...)...)
		if t.Failed() {
			t.FailNow()
		}
	}
}

// TestUnchanged: what is handed in is as it was, its spare room too (R2).
func TestUnchanged(t *testing.T) {
	r := rand.New(rand.NewSource(84))
	for range 500 {
		g := newMaker(r, surroundings(r))
		a, l := g.around, g.body(4)
		a.f.Params = append(make([]int, 0, 99), a.f.Params...)
		a.locals = append(make([]int, 0, 99), a.locals...)
		was := fmt.Sprint(a, l)
		first := a.check(l...)
		if fmt.Sprint(a, l) != was || !reflect.DeepEqual(a.f.Params[len(a.f.Params):99], make([]int, 99-len(a.f.Params))) {
			t.Fatalf("%v %v", a, l)
		}
		if second := a.check(l...); second != first {
			t.Fatalf("%d, then %d", first, second)
		}
	}
}

// TestNilIsEmpty: a nil list and an empty one are one (R2).
func TestNilIsEmpty(t *testing.T) {
	if e := Check(nil, nil, nil, false, false, api.FuncType{}, nil, nil); e != api.OK {
		t.Errorf("%d", e)
	}
	none := []int{}
	if e := Check([]api.FuncType{}, []api.FuncType{}, []api.Global{}, false, false, api.FuncType{Params: none, Results: none}, none, []in{}); e != api.OK {
		t.Errorf("%d", e)
	}
}
