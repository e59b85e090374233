package tests

import (
	"math"
	"slices"
	"strconv"
	"testing"

	"loop.example/liftedcode/impl"
)

// sample is an instruction at a place, with its bytes there and its text.
type sample struct {
	ins   impl.Ins
	at    int
	bytes []int
	text  string
}

// samples has every kind of instruction, written out by hand from the table of chapter 2.
var samples = []sample{
	{impl.Ins{Op: impl.OpHalt}, 0, []int{0}, "halt"},
	{impl.Ins{Op: impl.OpRet}, 7, []int{1}, "ret"},
	{impl.Ins{Op: impl.OpNop}, 1999, []int{2}, "nop"},
	{impl.Ins{Op: impl.OpPush}, 0, []int{16}, "push r0"},
	{impl.Ins{Op: impl.OpPush, A: 3}, 0, []int{19}, "push r3"},
	{impl.Ins{Op: impl.OpPop}, 0, []int{20}, "pop r0"},
	{impl.Ins{Op: impl.OpPop, A: 3}, 0, []int{23}, "pop r3"},
	{impl.Ins{Op: impl.OpOut}, 0, []int{24}, "out r0"},
	{impl.Ins{Op: impl.OpOut, A: 3}, 0, []int{27}, "out r3"},
	{impl.Ins{Op: impl.OpIn}, 0, []int{28}, "in r0"},
	{impl.Ins{Op: impl.OpIn, A: 3}, 0, []int{31}, "in r3"},
	{impl.Ins{Op: impl.OpMove, A: 1, B: 2}, 0, []int{32, 18}, "move r1 r2"},
	{impl.Ins{Op: impl.OpMove, A: 3, B: 3}, 0, []int{32, 51}, "move r3 r3"},
	{impl.Ins{Op: impl.OpLow, A: 2, B: 1}, 0, []int{33, 33}, "low r2 r1"},
	{impl.Ins{Op: impl.OpAdd, A: 0, B: 3}, 0, []int{34, 3}, "add r0 r3"},
	{impl.Ins{Op: impl.OpSub, A: 3, B: 0}, 0, []int{35, 48}, "sub r3 r0"},
	{impl.Ins{Op: impl.OpMul}, 0, []int{36, 0}, "mul r0 r0"},
	{impl.Ins{Op: impl.OpAnd, A: 1}, 0, []int{37, 16}, "and r1 r0"},
	{impl.Ins{Op: impl.OpOr, B: 1}, 0, []int{38, 1}, "or r0 r1"},
	{impl.Ins{Op: impl.OpXor, A: 2, B: 2}, 0, []int{39, 34}, "xor r2 r2"},
	{impl.Ins{Op: impl.OpCmp, A: 2, B: 3}, 0, []int{40, 35}, "cmp r2 r3"},
	{impl.Ins{Op: impl.OpSet}, 0, []int{48, 0, 0}, "set r0 0"},
	{impl.Ins{Op: impl.OpSet, A: 2, N: 513}, 0, []int{50, 1, 2}, "set r2 513"},
	{impl.Ins{Op: impl.OpSet, A: 3, N: 65535}, 0, []int{51, 255, 255}, "set r3 65535"},
	{impl.Ins{Op: impl.OpAddN, A: 1, N: -128}, 0, []int{53, 128}, "addn r1 -128"},
	{impl.Ins{Op: impl.OpAddN, A: 3, N: 127}, 0, []int{55, 127}, "addn r3 127"},
	{impl.Ins{Op: impl.OpAddN, N: -1}, 0, []int{52, 255}, "addn r0 -1"},
	{impl.Ins{Op: impl.OpCmpN, N: -128}, 0, []int{56, 128}, "cmpn r0 -128"},
	{impl.Ins{Op: impl.OpCmpN, A: 3}, 0, []int{59, 0}, "cmpn r3 0"},
	{impl.Ins{Op: impl.OpLoad, A: 1, B: 2, N: 255}, 0, []int{64, 18, 255}, "load r1 r2 255"},
	{impl.Ins{Op: impl.OpStore, A: 2, B: 1}, 0, []int{65, 33, 0}, "store r2 r1 0"},
	{impl.Ins{Op: impl.OpLoadB, A: 3, N: 128}, 0, []int{66, 48, 128}, "loadb r3 r0 128"},
	{impl.Ins{Op: impl.OpStoreB, B: 3, N: 1}, 0, []int{67, 3, 1}, "storeb r0 r3 1"},
	{impl.Ins{Op: impl.OpLocal, A: 3, N: 255}, 0, []int{130, 48, 255}, "local r3 255"},
	{impl.Ins{Op: impl.OpKeep, A: 1}, 0, []int{131, 16, 0}, "keep r1 0"},
	{impl.Ins{Op: impl.OpGrow}, 0, []int{128, 0}, "grow 0"},
	{impl.Ins{Op: impl.OpGrow, N: 255}, 0, []int{128, 255}, "grow 255"},
	{impl.Ins{Op: impl.OpDrop, N: 128}, 0, []int{129, 128}, "drop 128"},
	{impl.Ins{Op: impl.OpJump, N: 5}, 10, []int{80, 249}, "jump 5"},
	{impl.Ins{Op: impl.OpJump, N: 129}, 0, []int{80, 127}, "jump 129"},
	{impl.Ins{Op: impl.OpJump, A: 1, N: 1999}, 0, []int{88, 207, 7}, "jump far 1999"},
	{impl.Ins{Op: impl.OpJump, A: 1}, 1999, []int{88, 0, 0}, "jump far 0"},
	{impl.Ins{Op: impl.OpIf, B: impl.CondEqual}, 0, []int{81, 254}, "if equal 0"},
	{impl.Ins{Op: impl.OpIf, B: impl.CondOther, N: 2}, 0, []int{82, 0}, "if other 2"},
	{impl.Ins{Op: impl.OpIf, B: impl.CondLess, N: 3}, 0, []int{83, 1}, "if less 3"},
	{impl.Ins{Op: impl.OpIf, B: impl.CondMost, N: 1999}, 1999, []int{84, 254}, "if most 1999"},
	{impl.Ins{Op: impl.OpIf, B: impl.CondLow}, 126, []int{85, 128}, "if low 0"},
	{impl.Ins{Op: impl.OpIf, B: impl.CondHigh, N: 1}, 1, []int{86, 254}, "if high 1"},
	{impl.Ins{Op: impl.OpIf, A: 1, B: impl.CondEqual}, 0, []int{89, 0, 0}, "if equal far 0"},
	{impl.Ins{Op: impl.OpIf, A: 1, B: impl.CondOther, N: 1}, 0, []int{90, 1, 0}, "if other far 1"},
	{impl.Ins{Op: impl.OpIf, A: 1, B: impl.CondLess, N: 300}, 0, []int{91, 44, 1}, "if less far 300"},
	{impl.Ins{Op: impl.OpIf, A: 1, B: impl.CondMost, N: 255}, 0, []int{92, 255, 0}, "if most far 255"},
	{impl.Ins{Op: impl.OpIf, A: 1, B: impl.CondLow, N: 256}, 0, []int{93, 0, 1}, "if low far 256"},
	{impl.Ins{Op: impl.OpIf, A: 1, B: impl.CondHigh, N: 1999}, 0, []int{94, 207, 7}, "if high far 1999"},
	{impl.Ins{Op: impl.OpCall, N: 1999}, 0, []int{96, 207, 7}, "call 1999"},
	{impl.Ins{Op: impl.OpCall}, 1000, []int{96, 0, 0}, "call 0"},
	{impl.Ins{Op: impl.OpTable, B: 1}, 0, []int{112, 1, 0, 0}, "table r0 1 0"},
	{impl.Ins{Op: impl.OpTable, A: 1, B: 2, N: 40}, 0, []int{113, 2, 40, 0}, "table r1 2 40"},
	{impl.Ins{Op: impl.OpTable, A: 3, B: 8, N: 1999}, 0, []int{115, 8, 207, 7}, "table r3 8 1999"},
}

// edgeNumbers stand at the ends of the ranges of N, and one more on either side.
var edgeNumbers = []int{math.MinInt, -65536, -32769, -257, -256, -130, -129, -128, -127, -2, -1, 0, 1, 2, 8, 126, 127, 128, 129, 254, 255, 256, 257, 1998, 1999, 2000, 2001, 32767, 32768, 65534, 65535, 65536, math.MaxInt}

// edgeParts stand at the ends of the ranges of A and B, and one more on either side.
var edgeParts = []int{math.MinInt, -65536, -256, -2, -1, 0, 1, 2, 3, 4, 5, 6, 7, 8, 9, 16, 256, 65536, math.MaxInt}

var edgeKinds = []int{math.MinInt, -256, -2, -1, 31, 32, 255, 256, math.MaxInt}

// edgePlaces are in 0..MaxCode - 1.
var edgePlaces = []int{0, 1, 2, 125, 126, 127, 128, 129, 130, 131, 132, 255, 256, 1000, 1867, 1868, 1869, 1870, 1871, 1872, 1873, 1995, 1996, 1997, 1998, 1999}

var noPlaces = []int{math.MinInt, -65536, -2, -1, 2000, 2001, 65536, math.MaxInt}

var noBytes = []int{math.MinInt, -65536, -256, -128, -1, 256, 257, 272, 65536, math.MaxInt}

func between(n int, low int, high int) bool {
	return low <= n && n <= high
}

// isRegister is told apart from MaxRegs, so that another limit would not go unseen.
func isRegister(n int) bool {
	return between(n, 0, 3)
}

// wantIns tells from the table of chapter 2 whether i is an instruction.
func wantIns(i impl.Ins) bool {
	switch {
	case i.Op >= 0 && i.Op <= 2:
		return i.A == 0 && i.B == 0 && i.N == 0
	case i.Op >= 3 && i.Op <= 6:
		return isRegister(i.A) && i.B == 0 && i.N == 0
	case i.Op >= 7 && i.Op <= 15:
		return isRegister(i.A) && isRegister(i.B) && i.N == 0
	case i.Op == 16:
		return isRegister(i.A) && i.B == 0 && between(i.N, 0, 65535)
	case i.Op == 17 || i.Op == 18:
		return isRegister(i.A) && i.B == 0 && between(i.N, -128, 127)
	case i.Op >= 19 && i.Op <= 22:
		return isRegister(i.A) && isRegister(i.B) && between(i.N, 0, 255)
	case i.Op == 23 || i.Op == 24:
		return isRegister(i.A) && i.B == 0 && between(i.N, 0, 255)
	case i.Op == 25 || i.Op == 26:
		return i.A == 0 && i.B == 0 && between(i.N, 0, 255)
	case i.Op == 27:
		return between(i.A, 0, 1) && i.B == 0 && between(i.N, 0, 1999)
	case i.Op == 28:
		return between(i.A, 0, 1) && between(i.B, 0, 5) && between(i.N, 0, 1999)
	case i.Op == 29:
		return i.A == 0 && i.B == 0 && between(i.N, 0, 1999)
	case i.Op == 30:
		return isRegister(i.A) && between(i.B, 1, 8) && between(i.N, 0, 1999)
	}
	return false
}

func isNear(i impl.Ins) bool {
	return (i.Op == impl.OpJump || i.Op == impl.OpIf) && i.A == 0
}

func wantLong(i impl.Ins) int {
	switch {
	case i.Op <= 6:
		return 1
	case i.Op <= 15 || i.Op == 17 || i.Op == 18 || i.Op == 25 || i.Op == 26 || isNear(i):
		return 2
	case i.Op == 30:
		return 4
	}
	return 3
}

// wantRead tells from the table of chapter 2 which instruction stands at the beginning of four bytes that stand at a place.
func wantRead(list [4]int, at int) (impl.Ins, bool) {
	first, half := list[0], list[1]
	signed := int(int8(uint8(list[1])))
	word, end := list[1]+256*list[2], list[2]
	i := impl.Ins{}
	switch {
	case first <= 2:
		i.Op = first
	case between(first, 16, 31):
		i.Op, i.A = 3+(first-16)/4, first%4
	case between(first, 32, 40):
		i.Op, i.A, i.B = first-25, half/16, half%16
	case between(first, 48, 51):
		i.Op, i.A, i.N = 16, first-48, word
	case between(first, 52, 59):
		i.Op, i.A, i.N = 17+(first-52)/4, first%4, signed
	case between(first, 64, 67):
		i.Op, i.A, i.B, i.N = first-45, half/16, half%16, end
	case first == 80:
		i.Op, i.N = 27, at+2+signed
	case between(first, 81, 86):
		i.Op, i.B, i.N = 28, first-81, at+2+signed
	case first == 88:
		i.Op, i.A, i.N = 27, 1, word
	case between(first, 89, 94):
		i.Op, i.A, i.B, i.N = 28, 1, first-89, word
	case first == 96:
		i.Op, i.N = 29, word
	case between(first, 112, 115):
		i.Op, i.A, i.B, i.N = 30, first-112, list[1], list[2]+256*list[3]
	case between(first, 128, 129):
		i.Op, i.N = first-103, list[1]
	case between(first, 130, 131):
		i.Op, i.A, i.B, i.N = first-107, half/16, half%16, end
	default:
		return impl.Ins{}, false
	}
	if !wantIns(i) {
		return impl.Ins{}, false
	}
	return i, true
}

// eachIns calls check with all instructions but for numbers that are not near the ends of ranges.
func eachIns(check func(i impl.Ins)) {
	for op := 0; op <= 30; op++ {
		for a := range 4 {
			for b := range 9 {
				for _, n := range edgeNumbers {
					if i := (impl.Ins{Op: op, A: a, B: b, N: n}); wantIns(i) {
						check(i)
					}
				}
			}
		}
	}
}

// eachNoIns calls check with many that are no instructions, each of them so by one part or more.
func eachNoIns(check func(i impl.Ins)) {
	kinds := slices.Clone(edgeKinds)
	for op := 0; op <= 30; op++ {
		kinds = append(kinds, op)
	}
	for _, op := range kinds {
		for _, a := range edgeParts {
			for _, b := range edgeParts {
				for _, n := range edgeNumbers {
					if i := (impl.Ins{Op: op, A: a, B: b, N: n}); !wantIns(i) {
						check(i)
					}
				}
			}
		}
	}
}

// tooFar reports whether i is a near jump that does not reach its place from at.
func tooFar(i impl.Ins, at int) bool {
	return isNear(i) && !between(i.N-(at+2), -128, 127)
}

// codeWith has bytes at a place, and others ahead of them and behind.
func codeWith(at int, list []int, behind int) []int {
	var code []int
	for k := range at {
		code = append(code, k*7%256)
	}
	code = append(code, list...)
	for k := range behind {
		code = append(code, (k*11+255)%256)
	}
	return code
}

func checkNoneAt(t *testing.T, code []int, at int) {
	t.Helper()
	if i, ok := impl.InsAt(code, at); ok || i != (impl.Ins{}) {
		t.Errorf("InsAt of %d bytes at %d = %v, %t", len(code), at, i, ok)
	}
}

func TestNumbersOfInstructions(t *testing.T) {
	kinds := []int{
		impl.OpHalt, impl.OpRet, impl.OpNop, impl.OpPush, impl.OpPop, impl.OpOut, impl.OpIn, impl.OpMove,
		impl.OpLow, impl.OpAdd, impl.OpSub, impl.OpMul, impl.OpAnd, impl.OpOr, impl.OpXor, impl.OpCmp,
		impl.OpSet, impl.OpAddN, impl.OpCmpN, impl.OpLoad, impl.OpStore, impl.OpLoadB, impl.OpStoreB, impl.OpLocal,
		impl.OpKeep, impl.OpGrow, impl.OpDrop, impl.OpJump, impl.OpIf, impl.OpCall, impl.OpTable,
	}
	if len(kinds) != 31 {
		t.Fatalf("%d kinds", len(kinds))
	}
	for k, op := range kinds {
		if op != k {
			t.Errorf("kind %d has the number %d", k, op)
		}
	}
	if impl.MaxRegs != 4 || impl.MaxTable != 8 || impl.MaxCode != 2000 {
		t.Errorf("limits %d, %d, %d", impl.MaxRegs, impl.MaxTable, impl.MaxCode)
	}
}

func TestInsOkIsTheTable(t *testing.T) {
	eachIns(func(i impl.Ins) {
		if !impl.InsOk(i) {
			t.Errorf("InsOk(%v) = false", i)
		}
	})
	eachNoIns(func(i impl.Ins) {
		if impl.InsOk(i) {
			t.Errorf("InsOk(%v) = true", i)
		}
	})
}

func TestInsOkOfAllNumbers(t *testing.T) {
	for _, s := range samples {
		for n := -300; n <= 66000; n++ {
			i := impl.Ins{Op: s.ins.Op, A: s.ins.A, B: s.ins.B, N: n}
			if impl.InsOk(i) != wantIns(i) {
				t.Fatalf("InsOk(%v) = %t", i, !wantIns(i))
			}
		}
	}
}

func TestSamplesHaveEveryKind(t *testing.T) {
	seen := map[[2]int]bool{}
	for _, s := range samples {
		near := 0
		if isNear(s.ins) {
			near = 1
		}
		seen[[2]int{s.ins.Op, near}] = true
	}
	// 31 kinds, and two of them both near and far.
	if len(seen) != 33 {
		t.Errorf("%d forms", len(seen))
	}
}

// What is no instruction has no length, no bytes and no text.

func TestNoInstructions(t *testing.T) {
	eachNoIns(func(i impl.Ins) {
		if got := impl.InsLong(i); got != -1 {
			t.Errorf("InsLong(%v) = %d, not -1", i, got)
		}
		if got := impl.InsText(i); got != "" {
			t.Errorf("InsText(%v) = %q", i, got)
		}
		for _, at := range []int{-1, 0, 1000, 1999, 2000} {
			if list, ok := impl.InsPut(i, at); ok || len(list) != 0 {
				t.Errorf("InsPut(%v, %d) = %v, %t", i, at, list, ok)
			}
		}
	})
}

// Promise 7: an instruction is read as it is written.

func TestPromise7Values(t *testing.T) {
	for _, s := range samples {
		list, ok := impl.InsPut(s.ins, s.at)
		if !ok || !slices.Equal(list, s.bytes) {
			t.Errorf("InsPut(%v, %d) = %v, %t, not %v", s.ins, s.at, list, ok, s.bytes)
		}
	}
}

func TestPromise7ReadAsWritten(t *testing.T) {
	eachIns(func(i impl.Ins) {
		for _, at := range edgePlaces {
			list, ok := impl.InsPut(i, at)
			if ok == tooFar(i, at) {
				t.Fatalf("InsPut(%v, %d) = %v, %t", i, at, list, ok)
			}
			if !ok || isNear(i) {
				continue
			}
			if got, ok := impl.InsAt(list, 0); !ok || got != i {
				t.Fatalf("InsAt(%v, 0) = %v, %t, not %v", list, got, ok, i)
			}
		}
	})
}

func TestPromise7NearJumpsAtTheirPlaces(t *testing.T) {
	for _, at := range edgePlaces {
		for cond := -1; cond <= 5; cond++ {
			for far := -131; far <= 130; far++ {
				i := impl.Ins{Op: impl.OpIf, B: cond, N: at + 2 + far}
				first := 81 + cond
				if cond < 0 {
					i = impl.Ins{Op: impl.OpJump, N: at + 2 + far}
				}
				list, ok := impl.InsPut(i, at)
				if !between(far, -128, 127) || !between(i.N, 0, 1999) {
					if ok || len(list) != 0 {
						t.Fatalf("InsPut(%v, %d) = %v, %t", i, at, list, ok)
					}
					continue
				}
				if !ok || !slices.Equal(list, []int{first, (far + 256) % 256}) {
					t.Fatalf("InsPut(%v, %d) = %v, %t", i, at, list, ok)
				}
				if at+2 > impl.MaxCode {
					continue
				}
				if got, ok := impl.InsAt(codeWith(at, list, 0), at); !ok || got != i {
					t.Fatalf("InsAt of InsPut(%v, %d) = %v, %t", i, at, got, ok)
				}
			}
		}
	}
}

func TestPromise7FarJumpsReachAll(t *testing.T) {
	for _, at := range edgePlaces {
		for n := range impl.MaxCode {
			i := impl.Ins{Op: impl.OpJump, A: 1, N: n}
			if list, ok := impl.InsPut(i, at); !ok || !slices.Equal(list, []int{88, n % 256, n / 256}) {
				t.Fatalf("InsPut(%v, %d) = %v, %t", i, at, list, ok)
			}
		}
	}
}

func TestPromise7NoPlaces(t *testing.T) {
	for _, s := range samples {
		for _, at := range noPlaces {
			if list, ok := impl.InsPut(s.ins, at); ok || len(list) != 0 {
				t.Errorf("InsPut(%v, %d) = %v, %t", s.ins, at, list, ok)
			}
		}
	}
}

// Promise 8: an instruction has as many bytes as are told.

func TestPromise8Values(t *testing.T) {
	for _, s := range samples {
		if got := impl.InsLong(s.ins); got != len(s.bytes) {
			t.Errorf("InsLong(%v) = %d, not %d", s.ins, got, len(s.bytes))
		}
	}
}

func TestPromise8AsManyBytes(t *testing.T) {
	eachIns(func(i impl.Ins) {
		long := impl.InsLong(i)
		if long != wantLong(i) {
			t.Fatalf("InsLong(%v) = %d, not %d", i, long, wantLong(i))
		}
		for _, at := range edgePlaces {
			if list, ok := impl.InsPut(i, at); ok && len(list) != long {
				t.Fatalf("InsPut(%v, %d) = %v, not %d bytes", i, at, list, long)
			}
		}
	})
}

// Promise 9: what was put is there.

func TestPromise9Values(t *testing.T) {
	for _, s := range samples {
		if s.at+len(s.bytes) > impl.MaxCode {
			continue
		}
		code := codeWith(s.at, s.bytes, min(9, impl.MaxCode-s.at-len(s.bytes)))
		if got, ok := impl.InsAt(code, s.at); !ok || got != s.ins {
			t.Errorf("InsAt of %v at %d = %v, %t, not %v", s.bytes, s.at, got, ok, s.ins)
		}
	}
}

func TestPromise9WhatWasPutIsThere(t *testing.T) {
	for _, at := range []int{0, 1, 128, 1870, 1996, 1997, 1998, 1999} {
		eachIns(func(i impl.Ins) {
			list, ok := impl.InsPut(i, at)
			if !ok || at+len(list) > impl.MaxCode {
				return
			}
			for _, behind := range []int{0, 1, impl.MaxCode - at - len(list)} {
				if at+len(list)+behind > impl.MaxCode {
					continue
				}
				if got, ok := impl.InsAt(codeWith(at, list, behind), at); !ok || got != i {
					t.Fatalf("InsAt of InsPut(%v, %d), %d bytes behind, = %v, %t", i, at, behind, got, ok)
				}
			}
		})
	}
}

func TestPromise9NoPlaces(t *testing.T) {
	for _, long := range []int{0, 1, 5, impl.MaxCode} {
		code := slices.Repeat([]int{impl.OpNop}, long)
		for _, at := range []int{math.MinInt, -65536, -2, -1, long, long + 1, long + 2000, math.MaxInt} {
			checkNoneAt(t, code, at)
		}
	}
	checkNoneAt(t, nil, 0)
}

func TestPromise9FirstAndLastPlace(t *testing.T) {
	for _, long := range []int{1, 2, impl.MaxCode - 1, impl.MaxCode} {
		code := slices.Repeat([]int{impl.OpNop}, long)
		for _, at := range []int{0, long - 1} {
			if i, ok := impl.InsAt(code, at); !ok || i != (impl.Ins{Op: impl.OpNop}) {
				t.Errorf("InsAt of %d bytes at %d = %v, %t", long, at, i, ok)
			}
		}
	}
}

func TestPromise9TooManyBytes(t *testing.T) {
	for _, long := range []int{impl.MaxCode + 1, impl.MaxCode + 2, 70000} {
		code := slices.Repeat([]int{impl.OpNop}, long)
		for _, at := range []int{0, 1, 1999, 2000, long - 1} {
			checkNoneAt(t, code, at)
		}
	}
}

func TestPromise9NoBytes(t *testing.T) {
	for _, n := range noBytes {
		checkNoneAt(t, []int{n}, 0)
		checkNoneAt(t, []int{impl.OpNop, n}, 0)
		checkNoneAt(t, []int{n, impl.OpNop}, 1)
		for _, s := range samples {
			if s.at > 0 {
				continue
			}
			for k := range s.bytes {
				list := slices.Clone(s.bytes)
				list[k] = n
				checkNoneAt(t, list, 0)
			}
		}
	}
}

func TestPromise9CodeThatEndsWithin(t *testing.T) {
	for _, s := range samples {
		for long := 1; long < len(s.bytes); long++ {
			checkNoneAt(t, codeWith(0, s.bytes[:long:long], 0), 0)
			// The bytes that are missing stand behind the end of the slice, where they must not be read.
			checkNoneAt(t, s.bytes[:long], 0)
			checkNoneAt(t, codeWith(impl.MaxCode-long, s.bytes[:long], 0), impl.MaxCode-long)
		}
	}
}

// Promise 10: what is read is written as it was.

func checkRead(t *testing.T, list [4]int, at int) {
	t.Helper()
	code := codeWith(at, list[:], 0)
	want, wantOk := wantRead(list, at)
	got, ok := impl.InsAt(code, at)
	if got != want || ok != wantOk {
		t.Fatalf("InsAt of %v at %d = %v, %t, not %v, %t", list, at, got, ok, want, wantOk)
	}
	if !ok {
		return
	}
	back, ok := impl.InsPut(got, at)
	if !ok || !slices.Equal(back, code[at:at+len(back)]) {
		t.Fatalf("InsPut(%v, %d) = %v, %t, not the bytes %v", got, at, back, ok, list)
	}
}

func TestPromise10AllFirstBytes(t *testing.T) {
	ends := [][2]int{{0, 0}, {207, 7}, {208, 7}, {7, 207}, {7, 208}, {0, 8}, {255, 255}}
	for first := range 256 {
		for second := range 256 {
			for _, end := range ends {
				checkRead(t, [4]int{first, second, end[0], end[1]}, 0)
			}
			checkRead(t, [4]int{first, second, second % 8, 7}, 130)
		}
	}
}

func TestPromise10AllWords(t *testing.T) {
	for _, first := range []int{48, 51, 88, 89, 94, 96} {
		for word := range 65536 {
			checkRead(t, [4]int{first, word % 256, word / 256, 0}, 0)
		}
	}
	for word := range 65536 {
		checkRead(t, [4]int{112, 8, word % 256, word / 256}, 0)
	}
}

func TestPromise10NearJumpsFromAllPlaces(t *testing.T) {
	for at := 0; at <= impl.MaxCode-4; at++ {
		for _, far := range []int{0, 1, 126, 127, 128, 129, 253, 254, 255} {
			checkRead(t, [4]int{80, far, 0, 0}, at)
			checkRead(t, [4]int{81 + at%6, far, 0, 0}, at)
		}
	}
}

func TestPromise10NearJumpsOutOfTheCode(t *testing.T) {
	checkNoneAt(t, []int{80, 253}, 0)
	checkNoneAt(t, []int{86, 128}, 0)
	checkNoneAt(t, codeWith(125, []int{80, 128}, 0), 125)
	checkNoneAt(t, codeWith(1998, []int{80, 0}, 0), 1998)
	checkNoneAt(t, codeWith(1998, []int{81, 127}, 0), 1998)
	// A place behind the code that is told is one of code nevertheless.
	if i, ok := impl.InsAt([]int{80, 127}, 0); !ok || i != (impl.Ins{Op: impl.OpJump, N: 129}) {
		t.Errorf("InsAt = %v, %t", i, ok)
	}
	if i, ok := impl.InsAt(codeWith(1998, []int{80, 255}, 0), 1998); !ok || i != (impl.Ins{Op: impl.OpJump, N: 1999}) {
		t.Errorf("InsAt = %v, %t", i, ok)
	}
}

// Promise 11: the text tells the number.

func TestPromise11Values(t *testing.T) {
	for _, s := range samples {
		if got := impl.InsText(s.ins); got != s.text {
			t.Errorf("InsText(%v) = %q, not %q", s.ins, got, s.text)
		}
	}
}

func TestPromise11OneMore(t *testing.T) {
	for _, s := range samples {
		for n := -130; n <= 65536; n++ {
			i := impl.Ins{Op: s.ins.Op, A: s.ins.A, B: s.ins.B, N: n}
			more := impl.Ins{Op: s.ins.Op, A: s.ins.A, B: s.ins.B, N: n + 1}
			if wantIns(i) && wantIns(more) && impl.InsText(i) == impl.InsText(more) {
				t.Fatalf("%v and %v have the text %q", i, more, impl.InsText(i))
			}
		}
	}
}

func TestPromise11EndsWithTheNumber(t *testing.T) {
	eachIns(func(i impl.Ins) {
		text := impl.InsText(i)
		end := " " + strconv.Itoa(i.N)
		if i.Op >= impl.OpSet && (len(text) < len(end) || text[len(text)-len(end):] != end) {
			t.Fatalf("InsText(%v) = %q", i, text)
		}
	})
}

func TestPromise11AllTextsDiffer(t *testing.T) {
	seen := map[string]impl.Ins{}
	eachIns(func(i impl.Ins) {
		text := impl.InsText(i)
		if other, ok := seen[text]; ok || text == "" {
			t.Fatalf("%v and %v have the text %q", i, other, text)
		}
		seen[text] = i
	})
}

// What is returned is new, and what is told stays.

func TestInsPutSharesNothing(t *testing.T) {
	for _, s := range samples {
		first, _ := impl.InsPut(s.ins, s.at)
		second, _ := impl.InsPut(s.ins, s.at)
		whole := first[:cap(first)]
		for k := range whole {
			whole[k] = 77777
		}
		third, _ := impl.InsPut(s.ins, s.at)
		if !slices.Equal(second, s.bytes) || !slices.Equal(third, s.bytes) {
			t.Errorf("InsPut(%v, %d) = %v and %v after an earlier result was changed", s.ins, s.at, second, third)
		}
	}
}

func TestInsAtChangesNothing(t *testing.T) {
	for _, s := range samples {
		code := codeWith(s.at, s.bytes, min(3, impl.MaxCode-s.at-len(s.bytes)))
		kept := slices.Clone(code)
		for at := -1; at <= len(code); at++ {
			first, firstOk := impl.InsAt(code, at)
			second, secondOk := impl.InsAt(code, at)
			if first != second || firstOk != secondOk {
				t.Fatalf("InsAt at %d = %v, and then %v", at, first, second)
			}
		}
		if !slices.Equal(code, kept) {
			t.Fatalf("InsAt changed code with %v", s.ins)
		}
	}
}
