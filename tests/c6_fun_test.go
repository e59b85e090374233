package tests

import (
	"slices"
	"strconv"
	"strings"
	"testing"

	"loop.example/liftedcode/impl"
)

// fun is a function with what chapter 6 tells of it.
type fun struct {
	at     int
	body   []int
	called []int
	itself bool
}

// funned is what chapter 6 tells of an image: its functions in order, and what they share.
type funned struct {
	funs   []fun
	shared []int
}

func sameFun(a fun, b fun) bool {
	return a.at == b.at && slices.Equal(a.body, b.body) && slices.Equal(a.called, b.called) && a.itself == b.itself
}

func sameFunned(a funned, b funned) bool {
	return slices.EqualFunc(a.funs, b.funs, sameFun) && slices.Equal(a.shared, b.shared)
}

func funnedOf(m impl.Image) funned {
	f := funned{shared: impl.SharedIn(m)}
	for _, at := range impl.FunsOf(m) {
		f.funs = append(f.funs, fun{at, impl.BodyOf(m, at), impl.CalledIn(m, at), impl.CallsItself(m, at)})
	}
	return f
}

// calling is an image with what chapter 6 tells of it, written out by hand.
type calling struct {
	program string
	entry   int
	want    funned
}

func (c calling) image() impl.Image {
	m := imageOf(c.program)
	m.Entry = c.entry
	return m
}

func places(list ...int) []int {
	return list
}

// callingOf is an image whose functions share nothing, callingWith one whose functions share places.
func callingOf(program string, entry int, list ...fun) calling {
	return calling{program, entry, funned{funs: list}}
}

func callingWith(program string, entry int, shared []int, list ...fun) calling {
	return calling{program, entry, funned{list, shared}}
}

// callingsOfOne have one function: none is called, or no call is reached, or it leads out of the code.
func callingsOfOne() []calling {
	return []calling{
		callingOf("halt", 0, fun{0, places(0), nil, false}),
		callingOf("nop; ret; out r0", 0, fun{0, places(0, 1), nil, false}),
		callingOf("nop; halt; ret", 1, fun{1, places(1), nil, false}),
		callingOf("@l:; out r0; if less @l; jump @l", 0, fun{0, places(0, 1, 3), nil, false}),
		callingOf("if less @a; nop; @a:; jump @b; byte 255; @b:; halt", 0, fun{0, places(0, 2, 3, 6), nil, false}),
		callingOf("in r0; table r0 2 @t; halt; @t:; word 10; word 12; out r0; halt; ret", 0, fun{0, places(0, 1, 5, 10, 11, 12), nil, false}),
		// A function without instructions.
		callingOf("byte 255", 0, fun{0, nil, nil, false}),
		callingOf("byte 255; call 0; halt", 0, fun{0, nil, nil, false}),
		callingOf("set r0 5; out r0; halt", 1, fun{1, nil, nil, false}),
		callingOf("halt; byte 48; byte 1", 1, fun{1, nil, nil, false}),
		// No call is reached.
		callingOf("halt; call @f; halt; @f:; ret", 0, fun{0, places(0), nil, false}),
		callingOf("ret; call 0; ret", 0, fun{0, places(0), nil, false}),
		callingOf("jump @a; call @f; @a:; halt; @f:; ret", 0, fun{0, places(0, 5), nil, false}),
		callingOf("call 4; halt; ret", 3, fun{3, places(3), nil, false}),
		callingOf("jump @f; call @f; @f:; halt", 0, fun{0, places(0, 5), nil, false}),
		callingOf("table r0 2 @t; halt; @a:; call @f; halt; @f:; ret; @t:; word 5; byte 4", 0, fun{0, places(0, 4), nil, false}),
		callingOf("table r0 1 1999; halt; call 4; halt", 0, fun{0, places(0, 4), nil, false}),
		// No place of the code is called.
		callingOf("call 4; halt", 0, fun{0, places(0, 3), nil, false}),
		callingOf("call 1999; halt", 0, fun{0, places(0, 3), nil, false}),
		callingOf("call 3", 0, fun{0, places(0), nil, false}),
		callingOf("call 256; call 7; halt", 0, fun{0, places(0, 3, 6), nil, false}),
		// Just the Entry itself is called.
		callingOf("call 0", 0, fun{0, places(0), places(0), true}),
		callingOf("call 0; halt", 0, fun{0, places(0, 3), places(0), true}),
		callingOf("nop; call 1; halt", 1, fun{1, places(1, 4), places(1), true}),
		callingOf("call 0; call 4; call 0; halt", 0, fun{0, places(0, 3, 6, 9), places(0, 4), true}, fun{4, nil, nil, false}),
		callingOf("halt; ret; jump 4; call 2; ret", 2, fun{2, places(2, 4, 7), places(2), true}),
	}
}

// callingsOfSeveral have functions that are called in order, in rows, more than once, and in ways of all kinds.
func callingsOfSeveral() []calling {
	return []calling{
		callingOf("call @f; halt; @f:; out r0; ret", 0, fun{0, places(0, 3), places(4), false}, fun{4, places(4, 5), nil, false}),
		callingOf("call @f; halt; @f:; ret; @g:; call @h; ret; @h:; ret", 0, fun{0, places(0, 3), places(4), false}, fun{4, places(4), nil, false}),
		callingOf("call @f; call @f; halt; @f:; ret", 0, fun{0, places(0, 3, 6), places(7), false}, fun{7, places(7), nil, false}),
		// What follows a call is in the body, also if what is called halts.
		callingOf("call @f; call @g; halt; @f:; halt; @g:; ret", 0, fun{0, places(0, 3, 6), places(7, 8), false}, fun{7, places(7), nil, false}, fun{8, places(8), nil, false}),
		callingOf("call @f; out r0; byte 255; @f:; ret", 0, fun{0, places(0, 3), places(5), false}, fun{5, places(5), nil, false}),
		callingOf("call @g; call @f; halt; @f:; ret; @g:; ret", 0, fun{0, places(0, 3, 6), places(7, 8), false}, fun{7, places(7), nil, false}, fun{8, places(8), nil, false}),
		// The Entry is the first one, but in its order among those that are called.
		callingOf("@a:; ret; call @b; call @a; halt; @b:; out r0; ret", 1, fun{1, places(1, 4, 7), places(0, 8), false}, fun{0, places(0), nil, false}, fun{8, places(8, 9), nil, false}),
		callingOf("@a:; ret; call @b; call 1; call @a; halt; @b:; ret", 1, fun{1, places(1, 4, 7, 10), places(0, 1, 11), true}, fun{0, places(0), nil, false}, fun{11, places(11), nil, false}),
		callingOf("call @f; halt; @f:; call @g; call 0; ret; @g:; ret", 0, fun{0, places(0, 3), places(4), true}, fun{4, places(4, 7, 10), places(0, 11), true}, fun{11, places(11), nil, false}),
		callingOf("@a:; ret; @b:; out r0; ret; call @b; call @a; halt", 3, fun{3, places(3, 6, 9), places(0, 1), false}, fun{0, places(0), nil, false}, fun{1, places(1, 2), nil, false}),
		// In a row, each one behind that which calls it, and each one ahead of it.
		callingOf("call @f; halt; @f:; call @g; ret; @g:; call @h; ret; @h:; ret", 0,
			fun{0, places(0, 3), places(4), false}, fun{4, places(4, 7), places(8), false}, fun{8, places(8, 11), places(12), false}, fun{12, places(12), nil, false}),
		callingOf("@h:; ret; @g:; call @h; ret; call @g; halt", 5, fun{5, places(5, 8), places(1), false}, fun{0, places(0), nil, false}, fun{1, places(1, 4), places(0), false}),
		// Reached just behind a table, what follows one, a jump, a condition, or a call that leads nowhere.
		callingOf("table r0 1 @t; halt; @t:; word 7; call @f; halt; @f:; ret", 0, fun{0, places(0, 4, 7, 10), places(11), false}, fun{11, places(11), nil, false}),
		callingOf("table r0 2 @t; halt; @a:; call @f; halt; @f:; ret; @t:; word 5; word 4", 0, fun{0, places(0, 4, 5, 8), places(9), false}, fun{9, places(9), nil, false}),
		callingOf("table r0 1 @t; call @f; halt; @t:; word 7; @f:; ret", 0, fun{0, places(0, 4, 7), places(10), false}, fun{10, places(10), nil, false}),
		callingOf("jump @a; @f:; ret; @a:; call @f; halt", 0, fun{0, places(0, 3, 6), places(2), false}, fun{2, places(2), nil, false}),
		callingOf("jump far @a; @f:; ret; @a:; call @f; halt", 0, fun{0, places(0, 4, 7), places(3), false}, fun{3, places(3), nil, false}),
		callingOf("if equal @a; halt; @a:; call @f; halt; @f:; ret", 0, fun{0, places(0, 2, 3, 6), places(7), false}, fun{7, places(7), nil, false}),
		callingOf("if equal @a; call @f; @a:; halt; @f:; ret", 0, fun{0, places(0, 2, 5), places(6), false}, fun{6, places(6), nil, false}),
		callingOf("call 1999; call @f; halt; @f:; ret", 0, fun{0, places(0, 3, 6), places(7), false}, fun{7, places(7), nil, false}),
		// Within a function that is called: a table, one that is not all in the code, and a choice.
		callingOf("call @f; halt; @f:; table r0 1 @t; ret; @t:; word 11; out r0; halt", 0, fun{0, places(0, 3), places(4), false}, fun{4, places(4, 8, 11, 12), nil, false}),
		callingOf("call @f; halt; @f:; table r0 1 1999; ret", 0, fun{0, places(0, 3), places(4), false}, fun{4, places(4, 8), nil, false}),
		callingOf("call @f; halt; @f:; if low @x; ret; @x:; out r0; ret", 0, fun{0, places(0, 3), places(4), false}, fun{4, places(4, 6, 7, 8), nil, false}),
	}
}

// callingsOfElsewhere have calls of places where no instruction stands, and of others within instructions.
func callingsOfElsewhere() []calling {
	return []calling{
		callingOf("call @f; halt; @f:; byte 255", 0, fun{0, places(0, 3), places(4), false}, fun{4, nil, nil, false}),
		callingOf("call @f; halt; @f:; byte 48", 0, fun{0, places(0, 3), places(4), false}, fun{4, nil, nil, false}),
		callingOf("call @f; halt; @f:; byte 112; byte 0; byte 0; byte 0", 0, fun{0, places(0, 3), places(4), false}, fun{4, nil, nil, false}),
		callingOf("call 4; call 8; halt; nop; byte 255", 0, fun{0, places(0, 3, 6), places(4, 8), false}, fun{4, nil, nil, false}, fun{8, nil, nil, false}),
		// Behind the code, one place less, and both.
		callingOf("call 5; halt; ret", 0, fun{0, places(0, 3), nil, false}),
		callingOf("call 4; halt; ret", 0, fun{0, places(0, 3), places(4), false}, fun{4, places(4), nil, false}),
		callingOf("call 8; call 7; halt; ret", 0, fun{0, places(0, 3, 6), places(7), false}, fun{7, places(7), nil, false}),
		// Into another instruction, into the call itself, and from there back into the function.
		callingOf("set r0 24; call 1; halt", 0, fun{0, places(0, 3, 6), places(1), false}, fun{1, places(1, 2), nil, false}),
		callingOf("call 1; halt", 0, fun{0, places(0, 3), places(1), false}, fun{1, places(1), nil, false}),
		callingOf("call 2; halt", 0, fun{0, places(0, 3), places(2), false}, fun{2, places(2), nil, false}),
		callingWith("set r0 536; call 1; halt", 0, places(3, 6), fun{0, places(0, 3, 6), places(1), false}, fun{1, places(1, 2, 3, 6), places(1), true}),
		callingOf("call 6; halt; set r0 256; halt", 0, fun{0, places(0, 3), places(6), false}, fun{6, places(6), nil, false}),
		// A call that just one function has, within an instruction of another one.
		callingOf("call 4; set r0 2144; halt; halt; ret", 0, fun{0, places(0, 3, 6), places(4), false}, fun{4, places(4, 7), places(8), false}, fun{8, places(8), nil, false}),
		callingOf("jump @a; set r0 96; byte 0; ret; @a:; call 3; halt", 0, fun{0, places(0, 7, 10), places(3), true}, fun{3, places(3, 6), places(0), true}),
	}
}

// callingsOfCircles have functions that call themselves, at once or through others, and such that call just these.
func callingsOfCircles() []calling {
	list := []calling{
		callingOf("call @f; halt; @f:; call @f; ret", 0, fun{0, places(0, 3), places(4), false}, fun{4, places(4, 7), places(4), true}),
		callingOf("call @f; halt; @f:; call 0; ret", 0, fun{0, places(0, 3), places(4), true}, fun{4, places(4, 7), places(0), true}),
		callingOf("call @f; halt; @f:; call @g; ret; @g:; call @h; ret; @h:; call @f; ret", 0,
			fun{0, places(0, 3), places(4), false}, fun{4, places(4, 7), places(8), true}, fun{8, places(8, 11), places(12), true}, fun{12, places(12, 15), places(4), true}),
		callingOf("call @d; halt; @d:; call @f; ret; @f:; call @f; ret", 0,
			fun{0, places(0, 3), places(4), false}, fun{4, places(4, 7), places(8), false}, fun{8, places(8, 11), places(8), true}),
		callingOf("call @f; halt; @f:; call @g; call @h; ret; @g:; call @g; ret; @h:; call @g; ret", 0,
			fun{0, places(0, 3), places(4), false}, fun{4, places(4, 7, 10), places(11, 15), false}, fun{11, places(11, 14), places(11), true}, fun{15, places(15, 18), places(11), false}),
		// The call back stands in the second function, which calls others ahead of it.
		callingOf("call @f; halt; @f:; call @g; ret; @g:; call @h; call @f; ret; @h:; ret", 0,
			fun{0, places(0, 3), places(4), false}, fun{4, places(4, 7), places(8), true}, fun{8, places(8, 11, 14), places(4, 15), true}, fun{15, places(15), nil, false}),
		// Just such a call as is not reached would lead back.
		callingOf("call @f; halt; @f:; ret; call @f; call 0; ret", 0, fun{0, places(0, 3), places(4), false}, fun{4, places(4), nil, false}),
	}
	return append(list, callingsThatOnlyFall()...)
}

// callingsThatOnlyFall have functions to which one gets back without a call: these do not call themselves.
func callingsThatOnlyFall() []calling {
	return []calling{
		callingWith("call @f; halt; @g:; nop; @f:; call @g; ret", 0, places(5, 8),
			fun{0, places(0, 3), places(5), false}, fun{4, places(4, 5, 8), places(4), true}, fun{5, places(5, 8), places(4), false}),
		callingWith("call @f; halt; @f:; jump 0", 0, places(0, 3), fun{0, places(0, 3), places(4), false}, fun{4, places(0, 3, 4), places(4), true}),
		callingWith("nop; call 0; halt", 1, places(1, 4), fun{1, places(1, 4), places(0), false}, fun{0, places(0, 1, 4), places(0), true}),
		callingOf("call @f; halt; @f:; out r0; jump @f", 0, fun{0, places(0, 3), places(4), false}, fun{4, places(4, 5), nil, false}),
	}
}

// callingsOfShared have functions that share code.
func callingsOfShared() []calling {
	return []calling{
		// By a jump of one, of both, by a condition, and by a table.
		callingWith("call @f; call @g; halt; @f:; out r0; jump @x; @g:; out r1; @x:; nop; ret", 0, places(11, 12),
			fun{0, places(0, 3, 6), places(7, 10), false}, fun{7, places(7, 8, 11, 12), nil, false}, fun{10, places(10, 11, 12), nil, false}),
		callingWith("call @f; call @g; halt; @f:; jump @x; @g:; jump @x; @x:; ret", 0, places(11),
			fun{0, places(0, 3, 6), places(7, 9), false}, fun{7, places(7, 11), nil, false}, fun{9, places(9, 11), nil, false}),
		callingWith("call @f; if less @f; halt; @f:; ret", 0, places(6), fun{0, places(0, 3, 5, 6), places(6), false}, fun{6, places(6), nil, false}),
		callingWith("call @f; table r0 1 @t; halt; @t:; word 10; @f:; ret", 0, places(10), fun{0, places(0, 3, 7, 10), places(10), false}, fun{10, places(10), nil, false}),
		// One falls into the next one, the Entry among them.
		callingWith("call @f; call @g; halt; @f:; nop; @g:; ret", 0, places(8), fun{0, places(0, 3, 6), places(7, 8), false}, fun{7, places(7, 8), nil, false}, fun{8, places(8), nil, false}),
		callingWith("call @f; @f:; ret", 0, places(3), fun{0, places(0, 3), places(3), false}, fun{3, places(3), nil, false}),
		callingWith("call @f; @f:; call 0; ret", 0, places(3, 6), fun{0, places(0, 3, 6), places(0, 3), true}, fun{3, places(3, 6), places(0), true}),
		callingWith("call @f; out r0; jump @x; @f:; out r1; @x:; ret", 0, places(7), fun{0, places(0, 3, 4, 7), places(6), false}, fun{6, places(6, 7), nil, false}),
		// Three share a place, and two of them more.
		callingWith("call @f; call @g; call @h; halt; @f:; nop; @g:; nop; @h:; nop; ret", 0, places(11, 12, 13),
			fun{0, places(0, 3, 6, 9), places(10, 11, 12), false}, fun{10, places(10, 11, 12, 13), nil, false}, fun{11, places(11, 12, 13), nil, false}, fun{12, places(12, 13), nil, false}),
		callingWith("call @f; call @g; call @h; halt; @f:; jump @x; @g:; jump @x; @h:; jump @x; @x:; ret", 0, places(16),
			fun{0, places(0, 3, 6, 9), places(10, 12, 14), false}, fun{10, places(10, 16), nil, false}, fun{12, places(12, 16), nil, false}, fun{14, places(14, 16), nil, false}),
		// What is shared has a call: both call.
		callingWith("call @f; call @g; halt; @f:; nop; @g:; call @h; ret; @h:; ret", 0, places(8, 11),
			fun{0, places(0, 3, 6), places(7, 8), false}, fun{7, places(7, 8, 11), places(12), false}, fun{8, places(8, 11), places(12), false}, fun{12, places(12), nil, false}),
		// One begins within an instruction of the other: no place is shared, or just what is behind it.
		callingOf("call @f; call 8; halt; @f:; set r0 24; ret", 0, fun{0, places(0, 3, 6), places(7, 8), false}, fun{7, places(7, 10), nil, false}, fun{8, places(8, 9), nil, false}),
		callingWith("call @f; call 9; halt; @f:; set r0 512; ret", 0, places(10), fun{0, places(0, 3, 6), places(7, 9), false}, fun{7, places(7, 10), nil, false}, fun{9, places(9, 10), nil, false}),
		// What two functions call is not shared.
		callingOf("call @f; call @g; halt; @f:; call @g; ret; @g:; ret", 0, fun{0, places(0, 3, 6), places(7, 11), false}, fun{7, places(7, 10), places(11), false}, fun{11, places(11), nil, false}),
	}
}

func someCallings() []calling {
	return slices.Concat(callingsOfOne(), callingsOfSeveral(), callingsOfElsewhere(), callingsOfCircles(), callingsOfShared())
}

// wantGrown grows the set of the instructions that are reached from a place without calls until it stays.
func wantGrown(code []int, at int) []int {
	within := make([]bool, len(code))
	_, within[at] = stands(code, at)
	for grows := true; grows; {
		grows = false
		for from := len(code) - 1; from >= 0; from-- {
			if !within[from] {
				continue
			}
			leads, _ := wantLeads(code, from)
			if i, _ := stands(code, from); i.Op == impl.OpCall {
				leads = []int{from + wantLong(i)}
			}
			for _, to := range leads {
				if _, ok := stands(code, to); ok && !within[to] {
					within[to], grows = true, true
				}
			}
		}
	}
	return trues(within)
}

// trues are the numbers of those that are true.
func trues(list []bool) []int {
	var numbers []int
	for k, is := range list {
		if is {
			numbers = append(numbers, k)
		}
	}
	return numbers
}

// wantCalled tells from chapter 6 what calls at some places of code call.
func wantCalled(code []int, from []int) []int {
	called := make([]bool, len(code))
	for _, at := range from {
		if i, _ := stands(code, at); i.Op == impl.OpCall && i.N < len(code) {
			called[i.N] = true
		}
	}
	return trues(called)
}

// wantFunned is a second reading of chapter 6, function by function.
func wantFunned(m impl.Image) funned {
	reached, _ := wantReached(m)
	order := []int{m.Entry}
	for _, at := range wantCalled(m.Code, trues(reached)) {
		if at != m.Entry {
			order = append(order, at)
		}
	}
	var f funned
	bodies := make([]int, len(m.Code))
	for _, at := range order {
		body := wantGrown(m.Code, at)
		for _, place := range body {
			bodies[place]++
		}
		f.funs = append(f.funs, fun{at: at, body: body, called: wantCalled(m.Code, body)})
	}
	for at, count := range bodies {
		if count > 1 {
			f.shared = append(f.shared, at)
		}
	}
	tellItself(f.funs)
	return f
}

// tellItself tells of functions whether they call themselves: through each of them in turn.
func tellItself(list []fun) {
	calls := map[[2]int]bool{}
	for _, a := range list {
		for _, b := range a.called {
			calls[[2]int{a.at, b}] = true
		}
	}
	for _, through := range list {
		for _, a := range list {
			for _, b := range list {
				if calls[[2]int{a.at, through.at}] && calls[[2]int{through.at, b.at}] {
					calls[[2]int{a.at, b.at}] = true
				}
			}
		}
	}
	for k, a := range list {
		list[k].itself = calls[[2]int{a.at, a.at}]
	}
}

// checkFunned compares what is told of an image with the second reading, and returns it.
func checkFunned(t *testing.T, m impl.Image) funned {
	t.Helper()
	got, want := funnedOf(m), wantFunned(m)
	if !sameFunned(got, want) {
		t.Errorf("of %v, from %d on, is told %v, not %v", brief(m.Code), m.Entry, got, want)
	}
	return got
}

// checkNoFun checks what is told of a place that is no function.
func checkNoFun(t *testing.T, m impl.Image, at int) {
	t.Helper()
	if body, called := impl.BodyOf(m, at), impl.CalledIn(m, at); len(body) != 0 || len(called) != 0 || impl.CallsItself(m, at) {
		t.Errorf("of %d, no function of %v, is told %v, %v, %t", at, brief(m.Code), body, called, impl.CallsItself(m, at))
	}
}

// calls draws code with many calls of its own places.
func (l *lot) calls() []int {
	long := 6 + l.next(40)
	var code []int
	for len(code) < long {
		to := l.next(long)
		i := l.ins(long)
		switch l.next(6) {
		case 0, 1:
			i = impl.Ins{Op: impl.OpCall, N: to}
		case 2:
			i = impl.Ins{Op: l.oneOf(impl.OpRet, impl.OpHalt, impl.OpRet)}
		case 3:
			i = impl.Ins{Op: l.oneOf(impl.OpJump, impl.OpIf, impl.OpNop)}
			if i.Op != impl.OpNop {
				i.N = to
			}
		}
		list, _ := impl.InsPut(i, len(code))
		code = append(code, list...)
	}
	return code
}

// calledImages has images of all kinds, those with many calls among them. None is so long that the second reading takes long.
func calledImages() []impl.Image {
	var list []impl.Image
	for _, m := range chartedImages() {
		if len(m.Code) <= 300 {
			list = append(list, m)
		}
	}
	for _, c := range someCallings() {
		code := c.image().Code
		for entry := range code {
			list = append(list, impl.Image{Code: code, Entry: entry})
		}
	}
	l := &lot{state: 27}
	for range 4000 {
		code := l.calls()
		list = append(list, impl.Image{Code: code, Entry: l.oneOf(0, 0, l.next(len(code)))})
	}
	return list
}

func TestCallingsAreTold(t *testing.T) {
	for _, c := range someCallings() {
		if got := funnedOf(c.image()); !sameFunned(got, c.want) {
			t.Errorf("of %q, from %d on, is told %v, not %v", c.program, c.entry, got, c.want)
		}
		checkFunned(t, c.image())
	}
}

func TestFunctionsOfImagesOfAllKinds(t *testing.T) {
	counts := map[string]int{}
	for _, m := range calledImages() {
		got := checkFunned(t, m)
		counts["images"]++
		counts["shared"] += min(len(got.shared), 1)
		counts["many"] += len(got.funs) / 4
		for _, f := range got.funs {
			counts["functions"]++
			counts["bodies without instructions"] += 1 - min(len(f.body), 1)
			if f.itself && slices.Contains(f.called, f.at) {
				counts["at once"]++
			} else if f.itself {
				counts["through others"]++
			} else if len(f.called) > 0 {
				counts["calls others"]++
			}
		}
	}
	for _, what := range []string{"images", "shared", "many", "functions", "bodies without instructions", "at once", "through others", "calls others"} {
		if counts[what] < 300 {
			t.Errorf("just %d of %s", counts[what], what)
		}
	}
}

func TestAllFirstBytesOfFunctions(t *testing.T) {
	for first := range 256 {
		for _, second := range []int{0, 1, 4, 7, 17, 128, 254, 255} {
			checkFunned(t, impl.Image{Code: []int{96, 4, 0, 0, first, second, 2, 0, 1, 0, 4, 0}})
			checkFunned(t, impl.Image{Code: []int{2, first, second, 0, 1}})
		}
	}
}

// Names, memory and what this begins with do not matter.
func TestFunctionsHangOnCodeAndEntryAlone(t *testing.T) {
	for _, c := range someCallings() {
		m := impl.Image{Code: c.image().Code, Entry: c.entry, Room: 64, Data: sameBytes(96, 64), Names: namesAt(0)}
		if got := funnedOf(m); !sameFunned(got, c.want) {
			t.Errorf("of %q, with a name, is told %v, not %v", c.program, got, c.want)
		}
	}
}

func TestLimitOfFunctions(t *testing.T) {
	if impl.MaxFuns != 10 {
		t.Errorf("MaxFuns is %d", impl.MaxFuns)
	}
	// It is for programs alone: there may be more functions.
	for _, count := range []int{9, 10, 11, 12, 100} {
		if list := impl.FunsOf(rowOf(count, "ret")); len(list) != count {
			t.Errorf("%d functions are told of %d", len(list), count)
		}
	}
}

// Promise 27: what a function calls is a function, and the first one is the Entry.

func TestPromise27Values(t *testing.T) {
	for _, c := range someCallings() {
		var want []int
		for _, f := range c.want.funs {
			want = append(want, f.at)
		}
		if list := impl.FunsOf(c.image()); !slices.Equal(list, want) {
			t.Errorf("FunsOf %q, from %d on, = %v, not %v", c.program, c.entry, list, want)
		}
	}
}

func TestPromise27WhatIsCalledIsAmongThem(t *testing.T) {
	for _, m := range calledImages() {
		list := impl.FunsOf(m)
		if len(list) == 0 || list[0] != m.Entry {
			t.Errorf("FunsOf(%v), from %d on, = %v", brief(m.Code), m.Entry, list)
			continue
		}
		for k, at := range list[1:] {
			if !between(at, 0, len(m.Code)-1) || at == m.Entry || k > 0 && list[k] >= at {
				t.Errorf("FunsOf(%v), from %d on, = %v", brief(m.Code), m.Entry, list)
			}
		}
		// Each one but the first is called by one of them.
		called := map[int]bool{m.Entry: true}
		for _, at := range list {
			for _, to := range impl.CalledIn(m, at) {
				called[to] = true
				if !slices.Contains(list, to) {
					t.Errorf("%d calls %d in %v, but FunsOf is %v", at, to, brief(m.Code), list)
				}
			}
		}
		if len(called) != len(list) {
			t.Errorf("FunsOf(%v), from %d on, = %v, but called is %v", brief(m.Code), m.Entry, list, called)
		}
	}
}

// rowOf is an image of so many functions, each of which calls the next one, and the last one ends with a line.
func rowOf(count int, last string) impl.Image {
	var lines []string
	for k := range count - 1 {
		lines = append(lines, "call "+strconv.Itoa(4*(k+1)), "ret")
	}
	return impl.Image{Code: laid(strings.Join(append(lines, last), "; "))}
}

func TestPromise27TheLongestRow(t *testing.T) {
	m := rowOf(500, "call 0; ret")
	var want []int
	for k := range 500 {
		want = append(want, 4*k)
	}
	if list := impl.FunsOf(m); len(m.Code) != 2000 || !slices.Equal(list, want) || len(impl.SharedIn(m)) != 0 {
		t.Errorf("%d functions of %d bytes are told, %v", len(list), len(m.Code), brief(list))
	}
	for _, at := range []int{0, 4, 1000, 1992, 1996} {
		if body, called := impl.BodyOf(m, at), impl.CalledIn(m, at); !slices.Equal(body, places(at, at+3)) || !slices.Equal(called, places((at+4)%2000)) {
			t.Errorf("of %d is told %v, %v", at, body, called)
		}
	}
	// From the last one on, with all calls reached behind others.
	m.Entry = 1996
	if list := impl.FunsOf(m); !slices.Equal(list, append(places(1996), want[:499]...)) {
		t.Errorf("%d functions are told, %v", len(list), brief(list))
	}
}

func TestPromise27TheLastPlaceOfTheLongestCode(t *testing.T) {
	for to, want := range map[int][]int{1998: places(0, 1998), 1999: places(0, 1999)} {
		code := append([]int{96, to % 256, to / 256, 0}, sameBytes(1, 1996)...)
		m := impl.Image{Code: code}
		if list, body := impl.FunsOf(m), impl.BodyOf(m, to); !slices.Equal(list, want) || !slices.Equal(body, places(to)) {
			t.Errorf("FunsOf = %v, and BodyOf %d = %v", list, to, body)
		}
		m.Code = code[:to]
		if list := impl.FunsOf(m); !slices.Equal(list, places(0)) {
			t.Errorf("FunsOf of %d bytes = %v", to, list)
		}
	}
}

// Promise 28: what is in a function is reached.

func TestPromise28Values(t *testing.T) {
	for _, c := range someCallings() {
		for _, f := range c.want.funs {
			if list := impl.BodyOf(c.image(), f.at); !slices.Equal(list, f.body) {
				t.Errorf("BodyOf %q, from %d on, at %d = %v, not %v", c.program, c.entry, f.at, list, f.body)
			}
		}
	}
}

func TestPromise28WhatIsInAFunctionIsReached(t *testing.T) {
	for _, m := range calledImages() {
		follow := impl.FollowOf(m)
		within := make([]bool, len(m.Code))
		for _, at := range impl.FunsOf(m) {
			body := impl.BodyOf(m, at)
			for k, place := range body {
				within[place] = true
				if !slices.Contains(follow, place) || k > 0 && body[k-1] >= place {
					t.Errorf("BodyOf(%v, %d) = %v, but reached is %v", brief(m.Code), at, body, follow)
				}
			}
			if _, ok := impl.InsAt(m.Code, at); slices.Contains(body, at) != ok || !ok && len(body) != 0 {
				t.Errorf("BodyOf(%v, %d) = %v", brief(m.Code), at, body)
			}
		}
		// What is reached is in a function.
		if list := trues(within); !slices.Equal(list, follow) {
			t.Errorf("reached in %v is %v, but %v are in functions", brief(m.Code), follow, list)
		}
	}
}

// A run from a function on that calls nothing and does not return stays in its body, unless a table is not all in the code.
func TestPromise28RunsStayInTheBody(t *testing.T) {
	l := &lot{state: 28}
	checked := 0
	for _, m := range calledImages() {
		for _, at := range impl.FunsOf(m) {
			body := impl.BodyOf(m, at)
			if len(impl.CalledIn(m, at)) > 0 || mayLeave(m, body) {
				continue
			}
			begun := impl.Image{Code: m.Code, Entry: at}
			for _, place := range impl.RunPlaces(begun, l.words(), 300) {
				checked++
				if !slices.Contains(body, place) {
					t.Errorf("a run of %v from %d on comes to %d, but the body is %v", brief(m.Code), at, place, body)
				}
			}
		}
	}
	if checked < 3000 {
		t.Errorf("just %d places", checked)
	}
}

func TestPromise28TheLongestBodies(t *testing.T) {
	m := impl.Image{Code: append(sameBytes(2, 1999), 0)}
	if list := impl.BodyOf(m, 0); !slices.Equal(list, upTo(2000)) {
		t.Errorf("%d places are told", len(list))
	}
	code := chainOf(666)
	m = impl.Image{Code: code, Entry: len(code) - 3}
	if list := impl.BodyOf(m, m.Entry); len(list) != 667 || !slices.Equal(list, impl.FollowOf(m)) {
		t.Errorf("%d places are told", len(list))
	}
}

// Promise 29: what is called is a function.

func TestPromise29Values(t *testing.T) {
	for _, c := range someCallings() {
		for _, f := range c.want.funs {
			if list := impl.CalledIn(c.image(), f.at); !slices.Equal(list, f.called) {
				t.Errorf("CalledIn %q, from %d on, at %d = %v, not %v", c.program, c.entry, f.at, list, f.called)
			}
		}
	}
}

func TestPromise29WhatIsCalledIsAFunction(t *testing.T) {
	for _, m := range calledImages() {
		list := impl.FunsOf(m)
		for _, at := range list {
			called := impl.CalledIn(m, at)
			for k, to := range called {
				if !slices.Contains(list, to) || k > 0 && called[k-1] >= to {
					t.Errorf("CalledIn(%v, %d) = %v, but FunsOf is %v", brief(m.Code), at, called, list)
				}
			}
			// A call in the body calls, and no other one does.
			var want []int
			for _, place := range impl.BodyOf(m, at) {
				if i, _ := impl.InsAt(m.Code, place); i.Op == impl.OpCall && i.N < len(m.Code) {
					want = append(want, i.N)
				}
			}
			slices.Sort(want)
			if want = slices.Compact(want); !slices.Equal(called, want) {
				t.Errorf("CalledIn(%v, %d) = %v, not %v", brief(m.Code), at, called, want)
			}
		}
	}
}

func TestPromise29ManyCalls(t *testing.T) {
	for _, count := range []int{1, 2, 50, 285} {
		// Each place behind the calls and the first return is called twice, the last one of the code first.
		from := 6*count + 1
		var lines []string
		var want []int
		for k := range count {
			last := strconv.Itoa(from + count - 1 - k)
			lines = append(lines, "call "+last, "call "+last)
			want = append(want, from+k)
		}
		m := impl.Image{Code: append(laid(strings.Join(lines, "; ")), sameBytes(1, count+1)...)}
		if list := impl.CalledIn(m, 0); !slices.Equal(list, want) {
			t.Errorf("CalledIn of %d calls has %d places, %v, not %v", 2*count, len(list), brief(list), brief(want))
		}
	}
}

// Promise 30: a function that calls itself calls something, and one that calls itself at once does.

func TestPromise30Values(t *testing.T) {
	for _, c := range someCallings() {
		for _, f := range c.want.funs {
			if is := impl.CallsItself(c.image(), f.at); is != f.itself {
				t.Errorf("CallsItself %q, from %d on, at %d = %t", c.program, c.entry, f.at, is)
			}
		}
	}
}

// isCalledBack reports whether a function is called in one of those to which calls lead from some on.
func isCalledBack(m impl.Image, at int, called []int) bool {
	known := slices.Clone(called)
	for k := 0; k < len(known); k++ {
		for _, to := range impl.CalledIn(m, known[k]) {
			if !slices.Contains(known, to) {
				known = append(known, to)
			}
		}
	}
	return slices.Contains(known, at)
}

func TestPromise30CallsSomething(t *testing.T) {
	for _, m := range calledImages() {
		for _, at := range impl.FunsOf(m) {
			called, itself := impl.CalledIn(m, at), impl.CallsItself(m, at)
			if itself && len(called) == 0 || slices.Contains(called, at) && !itself {
				t.Errorf("CallsItself(%v, %d) = %t, but it calls %v", brief(m.Code), at, itself, called)
			}
			// It calls itself just if it is called in what is called from it on.
			if back := isCalledBack(m, at, called); itself != back {
				t.Errorf("CallsItself(%v, %d) = %t, but it calls %v", brief(m.Code), at, itself, called)
			}
		}
	}
}

func TestPromise30TheLongestCircles(t *testing.T) {
	for last, want := range map[string][]int{"ret": nil, "call 0; ret": places(0, 4, 1000, 1996), "call 4; ret": places(4, 1000, 1996), "call 1000; ret": places(1000, 1996), "call 1996; ret": places(1996)} {
		m := rowOf(500, last)
		for _, at := range []int{0, 4, 1000, 1996} {
			if is := impl.CallsItself(m, at); is != slices.Contains(want, at) {
				t.Errorf("with %q at the end, CallsItself at %d = %t", last, at, is)
			}
		}
	}
}

// Promise 31: what is shared is in two bodies.

func TestPromise31Values(t *testing.T) {
	for _, c := range someCallings() {
		if list := impl.SharedIn(c.image()); !slices.Equal(list, c.want.shared) {
			t.Errorf("SharedIn %q, from %d on, = %v, not %v", c.program, c.entry, list, c.want.shared)
		}
	}
}

func TestPromise31IsInTwoBodies(t *testing.T) {
	for _, m := range calledImages() {
		counts := make([]int, len(m.Code))
		for _, at := range impl.FunsOf(m) {
			for _, place := range impl.BodyOf(m, at) {
				counts[place]++
			}
		}
		list := impl.SharedIn(m)
		for at, count := range counts {
			if slices.Contains(list, at) != (count >= 2) {
				t.Errorf("SharedIn(%v) = %v, but %d is in %d bodies", brief(m.Code), list, at, count)
			}
		}
		if !slices.IsSorted(list) || len(slices.Compact(slices.Clone(list))) != len(list) {
			t.Errorf("SharedIn(%v) = %v", brief(m.Code), list)
		}
	}
}

func TestPromise31ManyFunctions(t *testing.T) {
	// Each of 500 functions falls into the next one, and all of them share what is behind the last one.
	var lines []string
	for k := range 500 {
		lines = append(lines, "call "+strconv.Itoa(3*(k+1)))
	}
	m := impl.Image{Code: slices.Concat(laid(strings.Join(lines, "; ")), sameBytes(2, 499), []int{0})}
	var want []int
	for at := 3; at < 2000; at++ {
		if at%3 == 0 || at > 1500 {
			want = append(want, at)
		}
	}
	if list := impl.SharedIn(m); !slices.Equal(list, want) || len(impl.FunsOf(m)) != 501 {
		t.Errorf("%d places are shared of %d functions, %v", len(list), len(impl.FunsOf(m)), brief(list))
	}
	if impl.CallsItself(m, 0) || impl.CallsItself(m, 3) || len(impl.BodyOf(m, 3)) != 999 {
		t.Error("the functions are told in another way")
	}
}

// What is told of what is no image, and of what is no function, is nothing.

func TestNoFunctionsOfNoImages(t *testing.T) {
	checkNone := func(m impl.Image) {
		t.Helper()
		if list, shared := impl.FunsOf(m), impl.SharedIn(m); len(list) != 0 || len(shared) != 0 {
			t.Errorf("of no image is told %v, %v", list, shared)
		}
		for _, at := range append([]int{0, 1, 3, 6, 7, m.Entry}, noPlaces...) {
			checkNoFun(t, m, at)
		}
	}
	for _, m := range badImages() {
		checkNone(m)
	}
	// The code alone would have functions that share a place and call themselves.
	base := imageOf("call 3; call 0; halt")
	if len(impl.SharedIn(base)) != 2 || !impl.CallsItself(base, 0) || !impl.CallsItself(base, 3) {
		t.Error("the image has other functions")
	}
	for _, m := range spoiltImages(base) {
		checkNone(m)
	}
}

func TestNothingIsToldOfNoFunctions(t *testing.T) {
	for k, m := range calledImages() {
		if k%4 != 0 {
			continue
		}
		list := impl.FunsOf(m)
		for at := -1; at <= len(m.Code)+1; at++ {
			if !slices.Contains(list, at) {
				checkNoFun(t, m, at)
			}
		}
	}
	for _, c := range someCallings() {
		m := c.image()
		for _, at := range append([]int{len(m.Code), len(m.Code) + 1, 65535}, noPlaces...) {
			checkNoFun(t, m, at)
		}
	}
	// Places of the code that are reached, and such to which just calls lead that are not reached.
	for program, list := range map[string][]int{
		"call @f; halt; @f:; out r0; ret":               {1, 2, 3, 5, 6},
		"jump @f; call @f; @f:; halt":                   {1, 2, 3, 4, 5, 6},
		"halt; call @f; halt; @f:; call @f; ret":        {1, 4, 5, 8, 9},
		"call 8; halt; call 4; ret":                     {3, 4, 7, 8},
		"call 1999; halt":                               {1, 3, 4, 1999},
		"table r0 1 @t; halt; @t:; word 7; call 0; ret": {4, 5, 7, 10, 11},
	} {
		for _, at := range list {
			checkNoFun(t, imageOf(program), at)
		}
	}
}

// What is returned is new, and what is told stays.

func callingImages() []impl.Image {
	var list []impl.Image
	for _, c := range someCallings() {
		list = append(list, c.image())
	}
	for _, m := range goodImages() {
		if len(m.Code) <= 300 {
			list = append(list, m)
		}
	}
	return list
}

// spoilFunned writes over all lists that are told of an image.
func spoilFunned(m impl.Image) {
	for _, at := range impl.FunsOf(m) {
		spoil(impl.BodyOf(m, at))
		spoil(impl.CalledIn(m, at))
	}
	spoil(impl.FunsOf(m))
	spoil(impl.SharedIn(m))
}

func TestWhatIsToldOfFunctionsSharesNothing(t *testing.T) {
	for k, kept := range callingImages() {
		m := copied(kept)
		want := wantFunned(kept)
		first := funnedOf(m)
		spoilFunned(m)
		if !alike(m, kept) {
			t.Errorf("what is told of image %d shares memory with it", k)
		}
		second := funnedOf(m)
		spoil(m.Code)
		if !sameFunned(first, want) || !sameFunned(second, want) {
			t.Errorf("what is told of image %d shares memory", k)
		}
	}
}

// The lists of one image are told side by side, and each of them is written over while the others are kept.
func TestListsOfFunctionsShareNothing(t *testing.T) {
	m := imageOf("call @f; call @g; halt; @f:; nop; @g:; call @f; ret")
	lists := func() [][]int {
		return [][]int{impl.FunsOf(m), impl.BodyOf(m, 7), impl.BodyOf(m, 8), impl.CalledIn(m, 0), impl.CalledIn(m, 7), impl.SharedIn(m)}
	}
	want := [][]int{{0, 7, 8}, {7, 8, 11}, {8, 11}, {7, 8}, {7}, {8, 11}}
	for k := range want {
		one, other := lists(), lists()
		spoil(one[k])
		for l := range want {
			if l != k && !slices.Equal(one[l], want[l]) || !slices.Equal(other[l], want[l]) {
				t.Errorf("list %d shares memory with list %d", l, k)
			}
		}
	}
}

func TestFunctionsChangeNothing(t *testing.T) {
	for k, m := range slices.Concat(callingImages(), badImages()) {
		g := guarded(m)
		first := funnedOf(g)
		if second := funnedOf(g); !sameFunned(first, second) {
			t.Errorf("image %d is told in different ways", k)
		}
		for at := -1; at <= min(len(m.Code), 50); at++ {
			impl.BodyOf(g, at)
			impl.CalledIn(g, at)
			impl.CallsItself(g, at)
		}
		if !alike(g, m) || !isGuarded(g) {
			t.Errorf("image %d was changed", k)
		}
	}
}
