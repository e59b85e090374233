package tests

import (
	"math"
	"slices"
	"strconv"
	"strings"
	"testing"

	"loop.example/liftedcode/impl"
)

var kindTexts = strings.Fields("halt ret nop push pop out in move low add sub mul and or xor cmp set addn cmpn load store loadb storeb local keep grow drop jump if call table")

var condNames = strings.Fields("equal other less most low high")

// insOf returns the instruction that has a text.
func insOf(text string) impl.Ins {
	parts := strings.Fields(text)
	i := impl.Ins{Op: slices.Index(kindTexts, parts[0])}
	registers := 0
	for _, part := range parts[1:] {
		n, err := strconv.Atoi(strings.TrimPrefix(part, "r"))
		switch {
		case slices.Contains(condNames, part):
			i.B = slices.Index(condNames, part)
		case part == "far":
			i.A = 1
		case err != nil:
			panic(text)
		case part[0] == 'r' && registers == 0:
			i.A, registers = n, 1
		case part[0] == 'r':
			i.B = n
		case i.Op == impl.OpTable && i.B == 0:
			i.B = n
		default:
			i.N = n
		}
	}
	if impl.InsText(i) != text {
		panic(text)
	}
	return i
}

// laid returns the bytes of a program: instructions by their texts, and byte and word with numbers as they are.
// A line of @ and a name, and a colon, is a label, which stands for its place in other lines.
func laid(program string) []int {
	labels := map[string]int{}
	laidWith(program, labels)
	return laidWith(program, labels)
}

// laidWith adds the labels of a program to those that are known. One that is not known yet stands for the place of its line.
func laidWith(program string, labels map[string]int) []int {
	var code []int
	for _, line := range strings.Split(program, ";") {
		parts := strings.Fields(line)
		if len(parts) == 0 {
			continue
		}
		if label, is := strings.CutSuffix(parts[0], ":"); is {
			labels[label] = len(code)
			continue
		}
		for k, part := range parts {
			if at, known := labels[part]; known {
				parts[k] = strconv.Itoa(at)
			} else if part[0] == '@' {
				parts[k] = strconv.Itoa(len(code))
			}
		}
		code = append(code, bytesOfLine(parts, len(code))...)
	}
	return code
}

func bytesOfLine(parts []string, at int) []int {
	n, _ := strconv.Atoi(parts[len(parts)-1])
	switch parts[0] {
	case "byte":
		return []int{n}
	case "word":
		return []int{n % 256, n / 256}
	}
	list, ok := impl.InsPut(insOf(strings.Join(parts, " ")), at)
	if !ok {
		panic(strings.Join(parts, " "))
	}
	return list
}

// told is what the three functions of chapter 4 tell of a run.
type told struct {
	end    int
	out    []int
	mem    []int
	steps  int
	places []int
}

func toldOf(m impl.Image, in []int, fuel int) told {
	r := impl.RunImage(m, in, fuel)
	return told{r.End, r.Out, r.Mem, impl.RunSteps(m, in, fuel), impl.RunPlaces(m, in, fuel)}
}

func sameResult(a told, b told) bool {
	return a.end == b.end && slices.Equal(a.out, b.out) && slices.Equal(a.mem, b.mem)
}

func sameTold(a told, b told) bool {
	return sameResult(a, b) && a.steps == b.steps && slices.Equal(a.places, b.places)
}

// model is a second reading of chapter 4, with words of sixteen bits.
type model struct {
	code, in         []int
	regs             [4]uint16
	equal, less, low bool
	stack            []uint16
	mem              []uint8
	out              []int
	at               int
}

// goesOn is told of a step that does not end the run.
const goesOn = -1

func wantRun(m impl.Image, in []int, fuel int) told {
	w := model{code: m.Code, in: in, at: m.Entry, equal: true, mem: make([]uint8, m.Room)}
	for k, n := range m.Data {
		w.mem[k] = uint8(n)
	}
	end, steps := goesOn, 0
	begun := map[int]bool{}
	for ; end == goesOn && steps < fuel; steps++ {
		i, ok := w.read()
		if !ok {
			end = impl.EndWrong
			continue
		}
		begun[w.at] = true
		w.at += wantLong(i)
		end = w.step(i)
	}
	if end == goesOn {
		end = impl.EndCut
	}
	t := told{end: end, out: w.out, steps: steps}
	for _, n := range w.mem {
		t.mem = append(t.mem, int(n))
	}
	for at := range m.Code {
		if begun[at] {
			t.places = append(t.places, at)
		}
	}
	return t
}

func (w *model) read() (impl.Ins, bool) {
	var list [4]int
	if w.at >= len(w.code) {
		return impl.Ins{}, false
	}
	copy(list[:], w.code[w.at:])
	i, ok := wantRead(list, w.at)
	return i, ok && w.at+wantLong(i) <= len(w.code)
}

func (w *model) compare(a uint16, b uint16) int {
	w.equal, w.less, w.low = a == b, int16(a) < int16(b), a < b
	return goesOn
}

func (w *model) holds(cond int) bool {
	is := []bool{w.equal, w.less, w.low}[cond/2]
	return is == (cond%2 == 0)
}

func (w *model) compute(op int, a uint16, b uint16) uint16 {
	switch op {
	case impl.OpSub:
		return a - b
	case impl.OpMul:
		return a * b
	case impl.OpAnd:
		return a & b
	case impl.OpOr:
		return a | b
	case impl.OpXor:
		return a ^ b
	}
	return a + b
}

func (w *model) pushed(words ...uint16) int {
	if len(w.stack)+len(words) > 200 {
		return impl.EndCut
	}
	w.stack = append(w.stack, words...)
	return goesOn
}

func (w *model) step(i impl.Ins) int {
	high := len(w.stack)
	switch {
	case i.Op == impl.OpHalt || i.Op == impl.OpRet && high == 0:
		return impl.EndHalt
	case i.Op == impl.OpNop:
		return goesOn
	case i.Op == impl.OpPop && high < 1 || (i.Op == impl.OpLocal || i.Op == impl.OpKeep) && high < i.N+1 || i.Op == impl.OpDrop && high < i.N:
		return impl.EndWrong
	case i.Op <= impl.OpIn && i.Op != impl.OpRet:
		return w.stepOfOne(i)
	case between(i.Op, impl.OpMove, impl.OpCmpN):
		return w.stepOfRegisters(i)
	case between(i.Op, impl.OpLoad, impl.OpStoreB):
		return w.stepOfMemory(i)
	case between(i.Op, impl.OpLocal, impl.OpDrop):
		return w.stepOfStack(i)
	}
	return w.stepElsewhere(i)
}

func (w *model) stepOfOne(i impl.Ins) int {
	a := &w.regs[i.A]
	switch i.Op {
	case impl.OpPush:
		return w.pushed(*a)
	case impl.OpPop:
		high := len(w.stack)
		*a, w.stack = w.stack[high-1], w.stack[:high-1]
	case impl.OpOut:
		if len(w.out) == 60 {
			return impl.EndCut
		}
		w.out = append(w.out, int(*a))
	case impl.OpIn:
		*a = 0
		if len(w.in) > 0 {
			*a, w.in = uint16(w.in[0]), w.in[1:]
		}
	}
	return goesOn
}

func (w *model) stepOfRegisters(i impl.Ins) int {
	a, b, n := &w.regs[i.A], w.regs[i.B], uint16(i.N)
	switch i.Op {
	case impl.OpMove:
		*a = b
	case impl.OpLow:
		*a = *a/256*256 + b%256
	case impl.OpSet:
		*a = n
	case impl.OpCmp:
		return w.compare(*a, b)
	case impl.OpCmpN:
		return w.compare(*a, n)
	case impl.OpAddN:
		*a += n
		return w.compare(*a, 0)
	default:
		*a = w.compute(i.Op, *a, b)
		return w.compare(*a, 0)
	}
	return goesOn
}

func (w *model) stepOfMemory(i impl.Ins) int {
	base := w.regs[i.B]
	if i.Op == impl.OpStore || i.Op == impl.OpStoreB {
		base = w.regs[i.A]
	}
	first := int(base + uint16(i.N))
	last := first
	if i.Op == impl.OpLoad || i.Op == impl.OpStore {
		last++
	}
	if last >= len(w.mem) {
		return impl.EndTrap
	}
	switch i.Op {
	case impl.OpLoad:
		w.regs[i.A] = uint16(w.mem[first]) + 256*uint16(w.mem[last])
	case impl.OpLoadB:
		w.regs[i.A] = uint16(w.mem[first])
	case impl.OpStore:
		w.mem[first], w.mem[last] = uint8(w.regs[i.B]%256), uint8(w.regs[i.B]/256)
	case impl.OpStoreB:
		w.mem[first] = uint8(w.regs[i.B] % 256)
	}
	return goesOn
}

func (w *model) stepOfStack(i impl.Ins) int {
	high := len(w.stack)
	switch i.Op {
	case impl.OpLocal:
		w.regs[i.A] = w.stack[high-1-i.N]
	case impl.OpKeep:
		w.stack[high-1-i.N] = w.regs[i.A]
	case impl.OpGrow:
		return w.pushed(make([]uint16, i.N)...)
	case impl.OpDrop:
		w.stack = w.stack[:high-i.N]
	}
	return goesOn
}

func (w *model) stepElsewhere(i impl.Ins) int {
	switch i.Op {
	case impl.OpRet:
		high := len(w.stack)
		w.at, w.stack = int(w.stack[high-1]), w.stack[:high-1]
	case impl.OpJump:
		w.at = i.N
	case impl.OpIf:
		if w.holds(i.B) {
			w.at = i.N
		}
	case impl.OpCall:
		behind := uint16(w.at)
		w.at = i.N
		return w.pushed(behind)
	case impl.OpTable:
		number := int(w.regs[i.A])
		if number >= i.B {
			return goesOn
		}
		from := i.N + 2*number
		if from+1 >= len(w.code) {
			return impl.EndWrong
		}
		w.at = w.code[from] + 256*w.code[from+1]
	}
	return goesOn
}

// checkRun compares a run with the second reading of chapter 4, and returns what it tells.
func checkRun(t *testing.T, m impl.Image, in []int, fuel int) told {
	t.Helper()
	got, want := toldOf(m, in, fuel), wantRun(m, in, fuel)
	if !sameTold(got, want) {
		t.Errorf("a run of %v, asking for %v, with a fuel of %d tells %v, not %v", m, in, fuel, got, want)
	}
	return got
}

// play is a run with what it comes to, written out by hand from chapter 4.
type play struct {
	program string
	in      []int
	fuel    int
	want    told
}

// memoryOf has the memory of a play: what its beginning has become, and behind it what it was.
func memoryOf(beginning ...int) []int {
	return slices.Concat(beginning, []int{1, 2, 255, 128, 0, 0}[len(beginning):])
}

func (p play) image() impl.Image {
	return imageOf(p.program)
}

// imageOf is an image with a room of 6 bytes, the last two of which it has no data for.
func imageOf(program string) impl.Image {
	return impl.Image{Code: laid(program), Room: 6, Data: []int{1, 2, 255, 128}}
}

// halted is what a run tells that halts and leaves the memory as it was.
func halted(out []int, steps int, places ...int) told {
	return told{impl.EndHalt, out, memoryOf(), steps, places}
}

// ended is what a run tells that ends in another way, and leaves the memory as it was.
func ended(end int, out []int, steps int, places ...int) told {
	return told{end, out, memoryOf(), steps, places}
}

// playsOfWords have instructions that set registers and flags, and tell words or ask for them.
func playsOfWords() []play {
	return []play{
		{"halt", nil, 9, halted(nil, 1, 0)},
		{"nop; nop; halt", nil, 9, halted(nil, 3, 0, 1, 2)},
		{"out r0; out r1; out r2; out r3; halt", nil, 9, halted([]int{0, 0, 0, 0}, 5, 0, 1, 2, 3, 4)},
		{"set r2 65535; out r2; out r1; halt", nil, 9, halted([]int{65535, 0}, 4, 0, 3, 4, 5)},
		{"in r1; in r3; out r3; out r1; halt", []int{7, 65535}, 9, halted([]int{65535, 7}, 5, 0, 1, 2, 3, 4)},
		{"set r0 5; in r0; out r0; halt", nil, 9, halted([]int{0}, 4, 0, 3, 4, 5)},
		{"in r0; in r0; out r0; in r0; out r0; halt", []int{3, 4}, 9, halted([]int{4, 0}, 6, 0, 1, 2, 3, 4, 5)},
		{"in r0; set r1 9; move r1 r0; out r1; out r0; halt", []int{300}, 9, halted([]int{300, 300}, 6, 0, 1, 4, 6, 7, 8)},
		{"set r1 4660; set r2 43981; low r1 r2; out r1; out r2; halt", nil, 9, halted([]int{4813, 43981}, 6, 0, 3, 6, 8, 9, 10)},
		{"set r0 65535; set r1 3; add r0 r1; out r0; out r1; halt", nil, 9, halted([]int{2, 3}, 6, 0, 3, 6, 8, 9, 10)},
		{"set r0 3; set r1 5; sub r0 r1; out r0; halt", nil, 9, halted([]int{65534}, 5, 0, 3, 6, 8, 9)},
		{"set r0 300; mul r0 r0; out r0; halt", nil, 9, halted([]int{24464}, 4, 0, 3, 5, 6)},
		{"set r0 12; set r1 10; and r0 r1; out r0; halt", nil, 9, halted([]int{8}, 5, 0, 3, 6, 8, 9)},
		{"set r0 12; set r1 10; or r0 r1; out r0; halt", nil, 9, halted([]int{14}, 5, 0, 3, 6, 8, 9)},
		{"set r0 12; set r1 10; xor r0 r1; out r0; halt", nil, 9, halted([]int{6}, 5, 0, 3, 6, 8, 9)},
		{"set r0 5; cmp r0 r1; if high @a; byte 255; @a:; if equal @x; cmp r1 r0; if less @b; @x:; byte 255; @b:; out r0; halt", nil, 9, halted([]int{5}, 8, 0, 3, 5, 8, 10, 12, 15, 16)},
		{"cmpn r0 -1; if low @a; byte 255; @a:; if most @b; byte 255; @b:; cmpn r0 0; if equal @c; byte 255; @c:; halt", nil, 9, halted(nil, 6, 0, 2, 5, 8, 10, 13)},
		{"addn r3 -1; out r3; addn r3 127; out r3; halt", nil, 9, halted([]int{65535, 126}, 5, 0, 2, 3, 5, 6)},
		// The flags at the beginning are those of two equal words: Equal alone.
		{"if equal @a; byte 255; @a:; out r0; if other @x; if most @b; byte 255; @b:; out r0; if less @x; if high @c; byte 255; @c:; out r0; if low @x; halt; @x:", nil, 20, halted([]int{0, 0, 0}, 10, 0, 3, 4, 6, 9, 10, 12, 15, 16, 18)},
		// Just comparisons and operations set them: the word 65535 that is set has none of these flags.
		{"set r0 65535; move r1 r0; low r2 r0; push r0; pop r2; in r2; grow 1; keep r0 0; local r1 0; drop 1; load r0 r2 0; store r2 r0 0; loadb r0 r2 0; storeb r2 r0 0; out r2; nop; if less @x; if equal @a; @x:; byte 255; @a:; halt", nil, 30, halted([]int{0}, 19, 0, 3, 5, 7, 8, 9, 10, 12, 15, 18, 20, 23, 26, 29, 32, 33, 34, 36, 39)},
	}
}

// playsOfMemory have instructions that load and store.
func playsOfMemory() []play {
	return []play{
		{"set r1 1; load r0 r1 1; out r0; halt", nil, 9, halted([]int{33023}, 4, 0, 3, 6, 7)},
		{"set r1 1; loadb r0 r1 2; out r0; halt", nil, 9, halted([]int{128}, 4, 0, 3, 6, 7)},
		{"set r0 4660; loadb r0 r1 0; out r0; halt", nil, 9, halted([]int{1}, 4, 0, 3, 6, 7)},
		{"set r1 513; store r2 r1 4; load r3 r2 4; out r3; halt", nil, 9, told{impl.EndHalt, []int{513}, memoryOf(1, 2, 255, 128, 1, 2), 5, []int{0, 3, 6, 9, 10}}},
		{"set r1 4660; storeb r2 r1 1; halt", nil, 9, told{impl.EndHalt, nil, memoryOf(1, 52), 3, []int{0, 3, 6}}},
		{"set r1 4660; store r2 r1 0; halt", nil, 9, told{impl.EndHalt, nil, memoryOf(52, 18), 3, []int{0, 3, 6}}},
		// The first and the last byte, and one outside on either side.
		{"loadb r0 r1 0; out r0; halt", nil, 9, halted([]int{1}, 3, 0, 3, 4)},
		{"load r0 r1 0; out r0; halt", nil, 9, halted([]int{513}, 3, 0, 3, 4)},
		{"loadb r0 r1 5; out r0; halt", nil, 9, halted([]int{0}, 3, 0, 3, 4)},
		{"load r0 r1 4; out r0; halt", nil, 9, halted([]int{0}, 3, 0, 3, 4)},
		{"set r2 9; storeb r1 r2 5; halt", nil, 9, told{impl.EndHalt, nil, memoryOf(1, 2, 255, 128, 0, 9), 3, []int{0, 3, 6}}},
		{"loadb r0 r1 6; out r0; halt", nil, 9, ended(impl.EndTrap, nil, 1, 0)},
		{"load r0 r1 5; out r0; halt", nil, 9, ended(impl.EndTrap, nil, 1, 0)},
		{"storeb r1 r0 6; out r0; halt", nil, 9, ended(impl.EndTrap, nil, 1, 0)},
		{"set r1 65535; out r1; loadb r0 r1 0; out r0; halt", nil, 9, ended(impl.EndTrap, []int{65535}, 3, 0, 3, 4)},
		{"set r1 65535; load r0 r1 0; out r0; halt", nil, 9, ended(impl.EndTrap, nil, 2, 0, 3)},
		{"set r1 65535; storeb r1 r0 0; out r0; halt", nil, 9, ended(impl.EndTrap, nil, 2, 0, 3)},
		// Of a word that is not all in memory no byte is stored.
		{"set r1 4660; store r2 r1 5; halt", nil, 9, ended(impl.EndTrap, nil, 2, 0, 3)},
		{"set r1 65535; store r1 r1 0; halt", nil, 9, ended(impl.EndTrap, nil, 2, 0, 3)},
		// Addresses go round.
		{"set r1 65535; load r0 r1 1; out r0; halt", nil, 9, halted([]int{513}, 4, 0, 3, 6, 7)},
		{"set r1 65281; loadb r0 r1 255; out r0; halt", nil, 9, halted([]int{1}, 4, 0, 3, 6, 7)},
		{"set r1 65534; set r0 9; storeb r1 r0 2; halt", nil, 9, told{impl.EndHalt, nil, memoryOf(9), 4, []int{0, 3, 6, 9}}},
		{"set r1 65534; store r1 r1 4; halt", nil, 9, told{impl.EndHalt, nil, memoryOf(1, 2, 254, 255), 3, []int{0, 3, 6}}},
	}
}

// playsOfStacks have instructions that take words of the stack, or put them there.
func playsOfStacks() []play {
	return []play{
		{"set r0 1; set r1 2; push r0; push r1; pop r2; pop r3; out r2; out r3; halt", nil, 9, halted([]int{2, 1}, 9, 0, 3, 6, 7, 8, 9, 10, 11, 12)},
		{"pop r0; halt", nil, 9, ended(impl.EndWrong, nil, 1, 0)},
		{"push r0; pop r0; out r0; pop r0; out r0; halt", nil, 9, ended(impl.EndWrong, []int{0}, 4, 0, 1, 2, 3)},
		{"grow 3; set r0 7; keep r0 2; set r0 8; keep r0 0; pop r1; pop r2; pop r3; out r1; out r2; out r3; halt", nil, 20, halted([]int{8, 0, 7}, 12, 0, 2, 5, 8, 11, 14, 15, 16, 17, 18, 19, 20)},
		{"set r0 5; push r0; set r0 6; push r0; local r1 1; local r2 0; out r1; out r2; halt", nil, 9, halted([]int{5, 6}, 9, 0, 3, 4, 7, 8, 11, 14, 15, 16)},
		{"local r0 0; halt", nil, 9, ended(impl.EndWrong, nil, 1, 0)},
		{"keep r0 0; halt", nil, 9, ended(impl.EndWrong, nil, 1, 0)},
		{"grow 2; local r0 2; halt", nil, 9, ended(impl.EndWrong, nil, 2, 0, 2)},
		{"grow 2; keep r0 2; halt", nil, 9, ended(impl.EndWrong, nil, 2, 0, 2)},
		{"grow 0; drop 0; halt", nil, 9, halted(nil, 3, 0, 2, 4)},
		{"grow 2; drop 2; ret", nil, 9, halted(nil, 3, 0, 2, 4)},
		{"drop 1; halt", nil, 9, ended(impl.EndWrong, nil, 1, 0)},
		{"grow 2; drop 3; halt", nil, 9, ended(impl.EndWrong, nil, 2, 0, 2)},
		{"push r0; set r0 9; push r0; drop 1; pop r1; out r1; halt", nil, 9, halted([]int{0}, 7, 0, 1, 4, 5, 7, 8, 9)},
		{"grow 199; grow 1; drop 200; halt", nil, 9, halted(nil, 4, 0, 2, 4, 6)},
		{"grow 200; grow 0; local r0 199; keep r0 199; halt", nil, 9, halted(nil, 5, 0, 2, 4, 7, 10)},
		{"grow 200; local r0 200; halt", nil, 9, ended(impl.EndWrong, nil, 2, 0, 2)},
		{"grow 201; halt", nil, 9, ended(impl.EndCut, nil, 1, 0)},
		{"grow 255; halt", nil, 9, ended(impl.EndCut, nil, 1, 0)},
		{"grow 199; grow 2; halt", nil, 9, ended(impl.EndCut, nil, 2, 0, 2)},
		{"grow 199; push r0; halt", nil, 9, halted(nil, 3, 0, 2, 3)},
		{"grow 200; push r0; halt", nil, 9, ended(impl.EndCut, nil, 2, 0, 2)},
		{"grow 199; call @f; @f:; halt", nil, 9, halted(nil, 3, 0, 2, 5)},
		{"grow 200; call @f; @f:; halt", nil, 9, ended(impl.EndCut, nil, 2, 0, 2)},
		{"call 0", nil, 4000, ended(impl.EndCut, nil, 201, 0)},
		{"@l:; push r1; jump @l", nil, 4000, ended(impl.EndCut, nil, 401, 0, 1)},
	}
}

// playsOfWays have instructions that lead elsewhere, and ends of the code.
func playsOfWays() []play {
	return []play{
		{"ret", nil, 9, halted(nil, 1, 0)},
		{"call @f; out r1; halt; @f:; set r1 9; ret", nil, 9, halted([]int{9}, 5, 0, 3, 4, 5, 8)},
		{"call @f; halt; @f:; pop r0; out r0; ret", nil, 9, halted([]int{3}, 4, 0, 4, 5, 6)},
		{"set r0 6; push r0; ret; byte 255; out r0; ret", nil, 9, ended(impl.EndHalt, []int{6}, 5, 0, 3, 4, 6, 7)},
		{"set r0 65535; push r0; ret", nil, 9, ended(impl.EndWrong, nil, 4, 0, 3, 4)},
		{"jump @a; byte 255; @a:; jump far @b; byte 255; @b:; halt", nil, 9, halted(nil, 3, 0, 3, 7)},
		{"@a:; in r0; out r0; addn r0 -1; if other @a; halt", []int{3, 2, 1}, 20, halted([]int{3, 2, 1}, 13, 0, 1, 2, 4, 6)},
		{"cmpn r0 1; if low far @a; byte 255; @a:; if high far 2; if equal far 2; if other @b; byte 255; @b:; halt", nil, 9, halted(nil, 6, 0, 2, 6, 9, 12, 15)},
		// Into another instruction, and to the place itself.
		{"jump 3; set r0 24", nil, 9, halted([]int{0}, 3, 0, 3, 4)},
		{"jump 0", nil, 50, ended(impl.EndCut, nil, 50, 0)},
		// Out of the code.
		{"nop", nil, 9, ended(impl.EndWrong, nil, 2, 0)},
		{"out r0; byte 255; halt", nil, 9, ended(impl.EndWrong, []int{0}, 2, 0)},
		{"byte 3", nil, 9, ended(impl.EndWrong, nil, 1)},
		{"jump 2", nil, 9, ended(impl.EndWrong, nil, 2, 0)},
		{"jump far 1999", nil, 9, ended(impl.EndWrong, nil, 2, 0)},
		{"if equal far 1999; halt", nil, 9, ended(impl.EndWrong, nil, 2, 0)},
		{"call 1999; halt", nil, 9, ended(impl.EndWrong, nil, 2, 0)},
		// Behind the last instruction that is begun the code ends.
		{"nop; byte 52", nil, 9, ended(impl.EndWrong, nil, 2, 0)},
		{"nop; byte 48; byte 1", nil, 9, ended(impl.EndWrong, nil, 2, 0)},
		{"nop; byte 112; byte 1; byte 0", nil, 9, ended(impl.EndWrong, nil, 2, 0)},
		{"nop; byte 50; byte 1; byte 2", nil, 9, ended(impl.EndWrong, nil, 3, 0, 1)},
		// Tables: below B, as much as B, more, and more than without signs would be below 0.
		{"in r2; table r2 2 @t; out r2; halt; @a:; out r0; halt; @t:; word @a; word @b; @b:; halt", []int{0}, 9, halted([]int{0}, 4, 0, 1, 7, 8)},
		{"in r2; table r2 2 @t; out r2; halt; @a:; out r0; halt; @t:; word @a; word @b; @b:; halt", []int{1}, 9, halted(nil, 3, 0, 1, 13)},
		{"in r2; table r2 2 @t; out r2; halt; @a:; out r0; halt; @t:; word @a; word @b; @b:; halt", []int{2}, 9, halted([]int{2}, 4, 0, 1, 5, 6)},
		{"in r2; table r2 2 @t; out r2; halt; @a:; out r0; halt; @t:; word @a; word @b; @b:; halt", []int{65535}, 9, halted([]int{65535}, 4, 0, 1, 5, 6)},
		// The last place of the table at the end of the code, and one byte behind it.
		{"in r2; table r2 2 @t; halt; @t:; word 5; word 5", []int{1}, 9, halted(nil, 3, 0, 1, 5)},
		{"in r2; table r2 2 @t; halt; @t:; word 5; byte 5", []int{1}, 9, ended(impl.EndWrong, nil, 2, 0, 1)},
		{"in r2; table r2 2 @t; halt; @t:; word 5; byte 5", []int{0}, 9, halted(nil, 3, 0, 1, 5)},
		{"in r2; table r2 2 @t; halt; @t:; word 5; byte 5", []int{2}, 9, halted(nil, 3, 0, 1, 5)},
		{"in r2; table r2 2 @t; halt; @t:; word 5", []int{1}, 9, ended(impl.EndWrong, nil, 2, 0, 1)},
		{"table r0 1 1999; halt", nil, 9, ended(impl.EndWrong, nil, 1, 0)},
		{"table r0 1 @t; @t:; word 65535", nil, 9, ended(impl.EndWrong, nil, 2, 0)},
		{"table r0 1 @t; @t:; word 6", nil, 9, ended(impl.EndWrong, nil, 2, 0)},
	}
}

// countdown takes 2 steps for each number that it counts, and 2 more.
func countdown(from int) string {
	return "set r0 " + strconv.Itoa(from) + "; @l:; addn r0 -1; if other @l; halt"
}

// playsOfFuel end with their last step, or one step earlier.
func playsOfFuel() []play {
	return []play{
		{"halt", nil, 0, ended(impl.EndCut, nil, 0)},
		{"halt", nil, 1, halted(nil, 1, 0)},
		{"byte 255", nil, 0, ended(impl.EndCut, nil, 0)},
		{"byte 255", nil, 1, ended(impl.EndWrong, nil, 1)},
		{"nop; halt", nil, 1, ended(impl.EndCut, nil, 1, 0)},
		{"nop", nil, 1, ended(impl.EndCut, nil, 1, 0)},
		{"nop", nil, 2, ended(impl.EndWrong, nil, 2, 0)},
		{"out r0; out r0; ret", nil, 2, ended(impl.EndCut, []int{0, 0}, 2, 0, 1)},
		{"out r0; out r0; ret", nil, 3, halted([]int{0, 0}, 3, 0, 1, 2)},
		{"nop; loadb r0 r1 6", nil, 1, ended(impl.EndCut, nil, 1, 0)},
		{"nop; loadb r0 r1 6", nil, 2, ended(impl.EndTrap, nil, 2, 0, 1)},
		{"nop; pop r0", nil, 1, ended(impl.EndCut, nil, 1, 0)},
		{"nop; pop r0", nil, 2, ended(impl.EndWrong, nil, 2, 0, 1)},
		{"set r1 9; storeb r0 r1 0; storeb r0 r1 1; halt", nil, 2, told{impl.EndCut, nil, memoryOf(9), 2, []int{0, 3}}},
		{"jump 0", nil, 4000, ended(impl.EndCut, nil, 4000, 0)},
		{countdown(1999), nil, 4000, halted(nil, 4000, 0, 3, 5, 7)},
		{countdown(1999), nil, 3999, ended(impl.EndCut, nil, 3999, 0, 3, 5)},
		{countdown(2000), nil, 4000, ended(impl.EndCut, nil, 4000, 0, 3, 5)},
	}
}

// zeros are so many words 0.
func zeros(count int) []int {
	return make([]int, count)
}

// upTo has the numbers from 0 on, so many.
func upTo(count int) []int {
	var list []int
	for k := range count {
		list = append(list, k)
	}
	return list
}

// playsOfMany are at the ends of how many words may be told, be asked for and be on the stack.
func playsOfMany() []play {
	twenty := []int{9, 1, 2, 3, 4, 5, 6, 7, 8, 0, 65535, 11, 12, 13, 14, 15, 16, 17, 18, 32768}
	return []play{
		{strings.Repeat("out r0; ", 60) + "halt", nil, 99, halted(zeros(60), 61, upTo(61)...)},
		{strings.Repeat("out r0; ", 61) + "halt", nil, 99, ended(impl.EndCut, zeros(60), 61, upTo(61)...)},
		{strings.Repeat("out r0; ", 61) + "halt", nil, 60, ended(impl.EndCut, zeros(60), 60, upTo(60)...)},
		{"@l:; out r0; jump @l", nil, 4000, ended(impl.EndCut, zeros(60), 121, 0, 1)},
		{strings.Repeat("in r0; out r0; ", 20) + "halt", twenty, 99, halted(twenty, 41, upTo(41)...)},
		{strings.Repeat("in r0; out r0; ", 25) + "halt", twenty, 99, halted(slices.Concat(twenty, zeros(5)), 51, upTo(51)...)},
		{strings.Repeat("in r0; out r0; ", 3) + "halt", twenty, 99, halted(twenty[:3], 7, upTo(7)...)},
		{strings.Repeat("push r0; ", 200) + strings.Repeat("pop r0; ", 200) + "ret", nil, 999, halted(nil, 401, upTo(401)...)},
		{strings.Repeat("push r0; ", 200) + strings.Repeat("pop r0; ", 201) + "ret", nil, 999, ended(impl.EndWrong, nil, 401, upTo(401)...)},
		{strings.Repeat("push r0; ", 201) + "halt", nil, 999, ended(impl.EndCut, nil, 201, upTo(201)...)},
	}
}

func somePlays() []play {
	return slices.Concat(playsOfWords(), playsOfMemory(), playsOfStacks(), playsOfWays(), playsOfFuel(), playsOfMany())
}

func TestNumbersOfRuns(t *testing.T) {
	ends := []int{impl.EndHalt, impl.EndTrap, impl.EndCut, impl.EndWrong, impl.EndBad}
	for k, end := range ends {
		if end != k {
			t.Errorf("end %d has the number %d", k, end)
		}
	}
	if impl.MaxDepth != 200 || impl.MaxFuel != 4000 || impl.MaxOut != 60 || impl.MaxIn != 20 {
		t.Errorf("limits %d, %d, %d, %d", impl.MaxDepth, impl.MaxFuel, impl.MaxOut, impl.MaxIn)
	}
}

func TestPlaysHaveEveryKindAndEnd(t *testing.T) {
	kinds, ends := map[int]bool{}, map[int]bool{}
	for _, p := range somePlays() {
		m := p.image()
		ends[p.want.end] = true
		for _, at := range p.want.places {
			if i, ok := impl.InsAt(m.Code, at); ok {
				kinds[i.Op] = true
			}
		}
	}
	if len(kinds) != 31 || len(ends) != 4 {
		t.Errorf("kinds %v and ends %v", kinds, ends)
	}
}

func TestRunValues(t *testing.T) {
	for _, p := range somePlays() {
		if got := toldOf(p.image(), p.in, p.fuel); !sameTold(got, p.want) {
			t.Errorf("%q, asking for %v, with a fuel of %d tells %v, not %v", p.program, p.in, p.fuel, got, p.want)
		}
		checkRun(t, p.image(), p.in, p.fuel)
	}
}

func TestRunBeginsAtTheEntry(t *testing.T) {
	code := laid("out r0; set r0 5; set r0 24")
	want := map[int]told{
		0: {impl.EndWrong, []int{0}, nil, 4, []int{0, 1, 4}},
		1: {impl.EndWrong, nil, nil, 3, []int{1, 4}},
		2: {impl.EndWrong, nil, nil, 1, nil},
		3: {impl.EndHalt, nil, nil, 1, []int{3}},
		4: {impl.EndWrong, nil, nil, 2, []int{4}},
		5: {impl.EndHalt, []int{0}, nil, 2, []int{5, 6}},
		6: {impl.EndHalt, nil, nil, 1, []int{6}},
	}
	for entry := range code {
		if got := toldOf(impl.Image{Code: code, Entry: entry}, nil, 9); !sameTold(got, want[entry]) {
			t.Errorf("a run from %d on tells %v, not %v", entry, got, want[entry])
		}
	}
}

func TestRunOfTheLongestCode(t *testing.T) {
	m := impl.Image{Code: make([]int, 2000), Entry: 1999}
	for k := range m.Code {
		m.Code[k] = 2
	}
	checkTold(t, m, told{impl.EndWrong, nil, nil, 2, []int{1999}})
	m.Code[1999] = 24
	checkTold(t, m, told{impl.EndWrong, []int{0}, nil, 2, []int{1999}})
	m.Code[1999] = 48
	checkTold(t, m, told{impl.EndWrong, nil, nil, 1, nil})
	m.Entry = 0
	checkTold(t, m, told{impl.EndWrong, nil, nil, 2000, upTo(1999)})
	copy(m.Code[1997:], []int{88, 205, 7})
	checkTold(t, m, told{impl.EndCut, nil, nil, 4000, upTo(1998)})
	copy(m.Code[1997:], []int{96, 0, 0})
	checkTold(t, m, told{impl.EndCut, nil, nil, 4000, upTo(1998)})
}

// checkTold compares a run with all fuel that there may be with what it should tell.
func checkTold(t *testing.T, m impl.Image, want told) {
	t.Helper()
	if got := toldOf(m, nil, 4000); !sameTold(got, want) {
		t.Errorf("a run tells %v, not %v", got, want)
	}
}

// tellConds tells for each condition 1 if it holds, and else 0.
func tellConds(far string) string {
	program := ""
	for k, cond := range condNames {
		label := "@" + strconv.Itoa(k)
		program += "; set r3 1; if " + cond + far + label + "; set r3 0; " + label + ":; out r3"
	}
	return program + "; halt"
}

// wantConds is what tellConds tells of the flags of two words.
func wantConds(a int, b int) []int {
	signedA, signedB := int16(uint16(a)), int16(uint16(b))
	var list []int
	for _, is := range []bool{a == b, a != b, signedA < signedB, signedA >= signedB, a < b, a >= b} {
		if is {
			list = append(list, 1)
		} else {
			list = append(list, 0)
		}
	}
	return list
}

// checkOut checks what an image tells that halts.
func checkOut(t *testing.T, m impl.Image, in []int, want []int) {
	t.Helper()
	r := impl.RunImage(m, in, 99)
	if r.End != impl.EndHalt || !slices.Equal(r.Out, want) {
		t.Errorf("a run of %v, asking for %v, ends with %d and tells %v, not %v", m, in, r.End, r.Out, want)
	}
}

func TestRunComparesWords(t *testing.T) {
	near := impl.Image{Code: laid("in r0; in r1; cmp r0 r1; out r0; out r1" + tellConds(" "))}
	far := impl.Image{Code: laid("in r2; in r0; cmp r2 r0; out r2; out r0" + tellConds(" far "))}
	for _, a := range edgeWords {
		for _, b := range edgeWords {
			want := append([]int{a, b}, wantConds(a, b)...)
			checkOut(t, near, []int{a, b}, want)
			checkOut(t, far, []int{a, b}, want)
		}
	}
}

func TestRunComputesWords(t *testing.T) {
	for _, op := range []string{"add", "sub", "mul", "and", "or", "xor"} {
		m := impl.Image{Code: laid("in r1; in r2; " + op + " r1 r2; out r1; out r2" + tellConds(" "))}
		own := impl.Image{Code: laid("in r0; " + op + " r0 r0; out r0" + tellConds(" far "))}
		kind := insOf(op + " r1 r2").Op
		for _, a := range edgeWords {
			for _, b := range edgeWords {
				sum := int((&model{}).compute(kind, uint16(a), uint16(b)))
				checkOut(t, m, []int{a, b}, append([]int{sum, b}, wantConds(sum, 0)...))
			}
			sum := int((&model{}).compute(kind, uint16(a), uint16(a)))
			checkOut(t, own, []int{a}, append([]int{sum}, wantConds(sum, 0)...))
		}
	}
}

func TestRunTakesAllNumbers(t *testing.T) {
	for n := -128; n <= 127; n++ {
		text := strconv.Itoa(n)
		adds := impl.Image{Code: laid("in r1; addn r1 " + text + "; out r1" + tellConds(" "))}
		compares := impl.Image{Code: laid("in r2; cmpn r2 " + text + "; out r2" + tellConds(" "))}
		for _, a := range edgeWords {
			sum := int(uint16(a) + uint16(n))
			checkOut(t, adds, []int{a}, append([]int{sum}, wantConds(sum, 0)...))
			checkOut(t, compares, []int{a}, append([]int{a}, wantConds(a, int(uint16(n)))...))
		}
	}
}

func TestRunSetsAllWords(t *testing.T) {
	for n := 0; n <= 65535; n += 13 {
		checkOut(t, impl.Image{Code: []int{49, n % 256, n / 256, 25, 0}}, nil, []int{n})
		checkOut(t, impl.Image{Code: []int{31, 27, 0}}, []int{n}, []int{n})
	}
}

// checkAccess runs a load or a store of some bytes at an address, told as a base and a number.
func checkAccess(t *testing.T, kind string, bytes int, room int, base int, n int) {
	t.Helper()
	m := impl.Image{Code: laid("in r0; in r1; " + kind + " " + strconv.Itoa(n) + "; out r0; out r1; halt"), Room: room}
	for k := range room {
		m.Data = append(m.Data, (k*37+129)%256)
	}
	address := (base + n) % 65536
	want := told{impl.EndHalt, []int{base, 43981}, slices.Clone(m.Data), 6, []int{0, 1, 2, 5, 6, 7}}
	switch {
	case address+bytes > room:
		want = told{impl.EndTrap, nil, slices.Clone(m.Data), 3, []int{0, 1, 2}}
	case kind == "load r1 r0":
		want.out[1] = m.Data[address] + 256*m.Data[address+1]
	case kind == "loadb r1 r0":
		want.out[1] = m.Data[address]
	case kind == "store r0 r1":
		want.mem[address], want.mem[address+1] = 205, 171
	case kind == "storeb r0 r1":
		want.mem[address] = 205
	}
	if got := toldOf(m, []int{base, 43981}, 99); !sameTold(got, want) {
		t.Errorf("%s at %d and %d of %d bytes tells %v, not %v", kind, base, n, room, got, want)
	}
}

func TestRunAtTheEndsOfMemory(t *testing.T) {
	for _, room := range []int{0, 1, 2, 3, 31, 63, 64} {
		addresses := []int{-3, -2, -1, 0, 1, 2, room - 3, room - 2, room - 1, room, room + 1, 255, 256, 32767, 32768}
		for _, address := range addresses {
			for _, n := range []int{0, 1, 2, 127, 128, 254, 255} {
				base := (address - n + 2*65536) % 65536
				checkAccess(t, "load r1 r0", 2, room, base, n)
				checkAccess(t, "store r0 r1", 2, room, base, n)
				checkAccess(t, "loadb r1 r0", 1, room, base, n)
				checkAccess(t, "storeb r0 r1", 1, room, base, n)
			}
		}
	}
}

func TestRunBeginsWithData(t *testing.T) {
	for room := 0; room <= 64; room++ {
		for _, long := range []int{0, 1, room / 2, room} {
			if long > room {
				continue
			}
			want := append(codeOf(long), zeros(room-long)...)
			r := impl.RunImage(impl.Image{Code: []int{0}, Room: room, Data: codeOf(long)}, nil, 1)
			if r.End != impl.EndHalt || !slices.Equal(r.Mem, want) {
				t.Errorf("the memory of %d bytes with %d of data is %v", room, long, r.Mem)
			}
		}
	}
}

// checkStack runs an instruction with so many words on the stack, the last one of which is 1, the one below it 2, and so on.
func checkStack(t *testing.T, high int, line string, want told) {
	t.Helper()
	program := "set r0 " + strconv.Itoa(high) + "; "
	for range high {
		program += "push r0; addn r0 -1; "
	}
	m := impl.Image{Code: laid(program + "set r1 77; " + line + "; out r1; pop r2; out r2; pop r2; out r2; pop r2; out r2; halt")}
	r := impl.RunImage(m, nil, 4000)
	if got := (told{end: r.End, out: r.Out}); !sameResult(got, want) {
		t.Errorf("%s with %d words on the stack tells %v, not %v", line, high, got, want)
	}
}

func TestRunOfSmallStacks(t *testing.T) {
	wrong := told{end: impl.EndWrong}
	for high := 3; high <= 6; high++ {
		for n := 0; n <= high+2; n++ {
			text := strconv.Itoa(n)
			local, keep := wrong, wrong
			if n < high {
				local = told{out: []int{n + 1, 1, 2, 3}}
				keep = told{out: []int{77, 1, 2, 3}}
				if n < 3 {
					keep.out[n+1] = 77
				}
			}
			checkStack(t, high, "local r1 "+text, local)
			checkStack(t, high, "keep r1 "+text, keep)
			drop := wrong
			if n <= high {
				drop = told{out: []int{77}}
				for k := n + 1; k <= min(high, n+3); k++ {
					drop.out = append(drop.out, k)
				}
				if high-n < 3 {
					drop.end = impl.EndWrong
				}
			}
			checkStack(t, high, "drop "+text, drop)
			grow := append(append([]int{77}, zeros(min(n, 3))...), 1, 2, 3)
			checkStack(t, high, "grow "+text, told{out: grow[:4]})
		}
	}
}

func TestRunOfHighStacks(t *testing.T) {
	for high := 0; high <= 255; high++ {
		for _, more := range []int{0, 1, 2, 100, 199, 200, 201, 255} {
			m := impl.Image{Code: []int{128, high, 128, more, 129, more, 129, high, 1}}
			want := impl.EndHalt
			if high+more > 200 {
				want = impl.EndCut
			}
			if r := impl.RunImage(m, nil, 9); r.End != want {
				t.Errorf("grow %d and %d ends with %d", high, more, r.End)
			}
		}
		for _, less := range []int{0, 1, 2, 100, 199, 200, 201, 255} {
			m := impl.Image{Code: []int{128, min(high, 200), 129, less, 0}}
			want := impl.EndHalt
			if less > min(high, 200) {
				want = impl.EndWrong
			}
			if r := impl.RunImage(m, nil, 9); r.End != want {
				t.Errorf("grow %d and drop %d ends with %d", min(high, 200), less, r.End)
			}
		}
	}
}

func TestRunOfCallsWithinCalls(t *testing.T) {
	// The function calls itself so often as is asked for, and tells how often it returned.
	m := impl.Image{Code: laid("in r0; call @f; out r1; halt; @f:; cmpn r0 0; if equal @e; addn r0 -1; call @f; addn r1 1; @e:; ret")}
	for _, n := range []int{0, 1, 2, 50, 198, 199} {
		if r := impl.RunImage(m, []int{n}, 4000); r.End != impl.EndHalt || !slices.Equal(r.Out, []int{n}) {
			t.Errorf("%d calls of itself: %v", n, r)
		}
	}
	for _, n := range []int{200, 201, 65535} {
		if r := impl.RunImage(m, []int{n}, 4000); r.End != impl.EndCut || len(r.Out) != 0 {
			t.Errorf("%d calls of itself: %v", n, r)
		}
	}
}

func TestRunOfTables(t *testing.T) {
	for count := 1; count <= 8; count++ {
		for register := range 4 {
			name := "r" + strconv.Itoa(register)
			program := "in " + name + "; table " + name + " " + strconv.Itoa(count) + " @t; set r0 99; out r0; halt"
			places := ""
			for k := range count {
				label := "@" + strconv.Itoa(k)
				program += "; " + label + ":; set r0 " + strconv.Itoa(k+100) + "; out r0; halt"
				places += "; word " + label
			}
			code := laid(program + "; @t:" + places)
			for _, n := range []int{0, 1, 2, 3, 4, 5, 6, 7, 8, 9, 255, 256, 32767, 32768, 65535} {
				checkTable(t, code, count, n)
			}
		}
	}
}

// checkTable runs code that ends with its table, and then the code without its last bytes.
func checkTable(t *testing.T, code []int, count int, number int) {
	t.Helper()
	for less := range 2*count + 1 {
		r := impl.RunImage(impl.Image{Code: code[:len(code)-less]}, []int{number}, 99)
		got := told{end: r.End, out: r.Out}
		want := told{out: []int{99}}
		if number < count {
			want.out[0] = number + 100
			if 2*number+2 > 2*count-less {
				want = told{end: impl.EndWrong}
			}
		}
		if !sameTold(got, want) {
			t.Errorf("a table of %d places with %d bytes less and the number %d tells %v, not %v", count, less, number, got, want)
		}
	}
}

// lot draws numbers in an order that is always the same.
type lot struct {
	state int
}

func (l *lot) next(below int) int {
	l.state = (l.state*1103515245 + 12345) % (1 << 31)
	return (l.state >> 8) % below
}

// oneOf draws one of some numbers.
func (l *lot) oneOf(list ...int) int {
	return list[l.next(len(list))]
}

// ins draws an instruction, each kind as often as another; most places to which it leads are below a number.
func (l *lot) ins(below int) impl.Ins {
	op := l.next(31)
	for {
		i := impl.Ins{Op: op, A: l.oneOf(0, l.next(4)), B: l.oneOf(0, l.next(9))}
		switch l.next(4) {
		case 0:
			i.N = l.oneOf(-128, -2, -1, 0, 1, 2, 127, 128, 199, 255, 1999, 65535)
		case 1:
			i.N = l.next(4)
		case 2:
			i.N = l.next(below)
		}
		if wantIns(i) {
			return i
		}
	}
}

// code draws instructions, and now and then bytes. Half of it begins with words on the stack, so that it goes on for longer.
func (l *lot) code() []int {
	long := 1 + l.next(60)
	var code []int
	if l.next(2) == 0 {
		code = append(code, 128, l.oneOf(4, 5, 100, 200))
	}
	for len(code) < long {
		if l.next(20) == 0 {
			code = append(code, l.next(256))
			continue
		}
		if list, ok := impl.InsPut(l.ins(long), len(code)); ok {
			code = append(code, list...)
		}
	}
	return code
}

func (l *lot) image() impl.Image {
	m := impl.Image{Code: l.code(), Room: l.oneOf(0, 1, 2, 3, 8, 64)}
	m.Entry = l.oneOf(0, 0, 0, 0, l.next(len(m.Code)))
	for range l.next(m.Room + 1) {
		m.Data = append(m.Data, l.next(256))
	}
	return m
}

// words draws words that are asked for, at most 20.
func (l *lot) words() []int {
	var list []int
	for range l.oneOf(0, 1, 3, 20) {
		list = append(list, l.oneOf(0, 1, 2, 5, 40, 255, 65535, l.next(65536)))
	}
	return list
}

// noteRun counts the ends of runs, and the kinds of instructions in runs that go on for a while.
func noteRun(m impl.Image, r told, ends map[int]int, kinds map[int]int) {
	ends[r.end]++
	if r.steps < 5 {
		return
	}
	for _, at := range r.places {
		i, _ := impl.InsAt(m.Code, at)
		kinds[i.Op]++
	}
}

func TestRunsOfAllKindsOfImages(t *testing.T) {
	l := &lot{state: 4}
	ends, kinds := map[int]int{}, map[int]int{}
	for range 20000 {
		m, in := l.image(), l.words()
		fuel := l.oneOf(0, 1, 2, 5, 17, 300, 4000)
		noteRun(m, checkRun(t, m, in, fuel), ends, kinds)
	}
	for end := impl.EndHalt; end <= impl.EndWrong; end++ {
		if ends[end] < 500 {
			t.Errorf("just %d runs ended with %d", ends[end], end)
		}
	}
	for op := range 31 {
		if kinds[op] < 100 {
			t.Errorf("just %d times kind %d was begun", kinds[op], op)
		}
	}
}

func TestRunsOfAllFirstBytes(t *testing.T) {
	for first := range 256 {
		for second := range 256 {
			m := impl.Image{Code: []int{first, second, 2, 24, 0, 1}, Room: 4, Data: []int{1, 2, 3}}
			checkRun(t, m, []int{5}, 30)
		}
	}
}

// fueled is an image with words, and the most fuel with which all runs of it are compared.
type fueled struct {
	image impl.Image
	in    []int
	most  int
}

func someFueled() []fueled {
	var list []fueled
	for _, p := range somePlays() {
		list = append(list, fueled{p.image(), p.in, min(p.fuel+3, 130)})
	}
	l := &lot{state: 18}
	for range 1500 {
		list = append(list, fueled{l.image(), l.words(), 40})
	}
	return list
}

// Promise 17: with more fuel a run goes the same way.

// checkMoreFuel compares a run with one that has more fuel.
func checkMoreFuel(t *testing.T, m impl.Image, less told, more told) {
	t.Helper()
	if less.end != impl.EndCut && !sameTold(less, more) {
		t.Errorf("%v with more fuel tells %v, not %v", m, more, less)
	}
	if len(less.out) > len(more.out) || !slices.Equal(less.out, more.out[:len(less.out)]) {
		t.Errorf("%v with more fuel tells the words %v, not first %v", m, more.out, less.out)
	}
	for _, at := range less.places {
		if !slices.Contains(more.places, at) {
			t.Errorf("%v with more fuel does not come to %d", m, at)
		}
	}
	if less.steps > more.steps {
		t.Errorf("%v with more fuel takes %d steps, not %d at least", m, more.steps, less.steps)
	}
}

func TestPromise17MoreFuel(t *testing.T) {
	for _, f := range someFueled() {
		all := toldOf(f.image, f.in, impl.MaxFuel)
		last := toldOf(f.image, f.in, 0)
		for fuel := 1; fuel <= f.most; fuel++ {
			next := toldOf(f.image, f.in, fuel)
			checkMoreFuel(t, f.image, last, next)
			last = next
		}
		checkMoreFuel(t, f.image, last, all)
	}
}

func TestPromise17TellsOneMore(t *testing.T) {
	m := impl.Image{Code: laid("@l:; in r0; out r0; jump @l")}
	in := []int{5, 4, 3, 2, 1}
	want := append(slices.Clone(in), zeros(55)...)
	for fuel := 0; fuel <= 200; fuel++ {
		r := impl.RunImage(m, in, fuel)
		count := min((fuel+1)/3, 60)
		if r.End != impl.EndCut || !slices.Equal(r.Out, want[:count]) {
			t.Errorf("with a fuel of %d: %v", fuel, r)
		}
	}
}

// Promise 18: a run needs just its steps.

func TestPromise18Values(t *testing.T) {
	for _, p := range somePlays() {
		if steps := impl.RunSteps(p.image(), p.in, p.fuel); steps != p.want.steps {
			t.Errorf("%q with a fuel of %d takes %d steps, not %d", p.program, p.fuel, steps, p.want.steps)
		}
	}
}

func checkSteps(t *testing.T, f fueled, fuel int) {
	t.Helper()
	run := toldOf(f.image, f.in, fuel)
	if !between(run.steps, 0, fuel) {
		t.Errorf("%v with a fuel of %d takes %d steps", f.image, fuel, run.steps)
		return
	}
	if same := toldOf(f.image, f.in, run.steps); !sameTold(same, run) {
		t.Errorf("%v with just its %d steps tells %v, not %v", f.image, run.steps, same, run)
	}
	if run.end == impl.EndCut {
		return
	}
	if run.steps == 0 {
		t.Errorf("%v ends with %d without a step", f.image, run.end)
		return
	}
	less := toldOf(f.image, f.in, run.steps-1)
	if less.end != impl.EndCut || less.steps != run.steps-1 {
		t.Errorf("%v with one step less than %d tells %v", f.image, run.steps, less)
	}
}

func TestPromise18JustItsSteps(t *testing.T) {
	for _, f := range someFueled() {
		for fuel := 0; fuel <= f.most; fuel += 3 {
			checkSteps(t, f, fuel)
		}
		checkSteps(t, f, f.most)
		checkSteps(t, f, impl.MaxFuel-1)
		checkSteps(t, f, impl.MaxFuel)
	}
}

func TestPromise18CountsAStepThatDoesNotEnd(t *testing.T) {
	cases := map[string]int{"byte 255": 1, "nop": 2, "pop r0": 1, "nop; drop 1": 2, "loadb r0 r0 64": 1, "grow 255": 1, "nop; local r0 0": 2, "nop; keep r0 0": 2, "table r0 1 1999": 1}
	for program, steps := range cases {
		m := imageOf(program)
		if got := impl.RunSteps(m, nil, 9); got != steps {
			t.Errorf("%q takes %d steps, not %d", program, got, steps)
		}
		if r := impl.RunImage(m, nil, steps-1); r.End != impl.EndCut {
			t.Errorf("%q with one step less ends with %d", program, r.End)
		}
	}
}

// RunPlaces tells the places of all instructions that a run begins.

func TestRunPlacesAscendEachOnce(t *testing.T) {
	for _, f := range someFueled() {
		for fuel := 0; fuel <= f.most; fuel += 7 {
			list := impl.RunPlaces(f.image, f.in, fuel)
			for k, at := range list {
				if k > 0 && list[k-1] >= at {
					t.Errorf("RunPlaces of %v = %v", f.image, list)
				}
				if _, ok := impl.InsAt(f.image.Code, at); !ok {
					t.Errorf("RunPlaces of %v has %d, where no instruction stands", f.image, at)
				}
			}
			if steps := impl.RunSteps(f.image, f.in, fuel); len(list) > steps || fuel > 0 && len(list) == 0 && steps > 1 {
				t.Errorf("RunPlaces of %v, in %d steps, = %v", f.image, steps, list)
			}
		}
	}
}

func TestRunPlacesBackwards(t *testing.T) {
	m := impl.Image{Code: laid("@a:; halt; @b:; jump @a; @c:; jump @b; @d:; jump @c; @e:; jump @d"), Entry: 7}
	want := []int{0, 1, 3, 5, 7}
	for fuel := 0; fuel <= 9; fuel++ {
		list := impl.RunPlaces(m, nil, fuel)
		if !slices.Equal(list, want[5-min(fuel, 5):]) {
			t.Errorf("RunPlaces with a fuel of %d = %v", fuel, list)
		}
	}
}

func TestRunPlacesOfInstructionsThatOverlap(t *testing.T) {
	// The run goes to place 0 first, and then into the instruction that stands there.
	m := impl.Image{Code: []int{48, 24, 0, 80, 252}}
	if list := impl.RunPlaces(m, nil, 9); !slices.Equal(list, []int{0, 1, 2, 3}) {
		t.Errorf("RunPlaces = %v", list)
	}
}

// What there is nothing to run of comes to nothing.

// checkNothing checks what is told for arguments that are not valid.
func checkNothing(t *testing.T, m impl.Image, in []int, fuel int) {
	t.Helper()
	got := toldOf(m, in, fuel)
	if got.end != impl.EndBad || len(got.out) != 0 || len(got.mem) != 0 || got.steps != -1 || len(got.places) != 0 {
		t.Errorf("a run of %d bytes, asking for %v, with a fuel of %d tells %v", len(m.Code), in, fuel, got)
	}
}

func TestRunOfNoImages(t *testing.T) {
	for _, m := range badImages() {
		for _, fuel := range []int{-1, 0, 1, 10, 4000, 4001} {
			checkNothing(t, m, nil, fuel)
			checkNothing(t, m, []int{1, 2}, fuel)
		}
	}
}

func TestRunOfNoFuel(t *testing.T) {
	for _, p := range somePlays() {
		for _, fuel := range []int{math.MinInt, -65536, -4000, -2, -1, 4001, 4002, 60000, 65536, math.MaxInt} {
			checkNothing(t, p.image(), p.in, fuel)
		}
	}
}

func TestRunOfAllFuels(t *testing.T) {
	m := imageOf("out r0; ret")
	for fuel := -50; fuel <= 4050; fuel++ {
		if !between(fuel, 0, 4000) {
			checkNothing(t, m, nil, fuel)
		} else if steps := impl.RunSteps(m, nil, fuel); steps != min(fuel, 2) {
			t.Errorf("with a fuel of %d it takes %d steps", fuel, steps)
		}
	}
}

func TestRunOfTooManyWords(t *testing.T) {
	m := imageOf("in r0; out r0; halt")
	for count := 0; count <= 60; count++ {
		if count > 20 {
			checkNothing(t, m, zeros(count), 9)
			checkNothing(t, m, zeros(count), 0)
			checkNothing(t, imageOf("halt"), zeros(count), 9)
		} else if r := impl.RunImage(m, zeros(count), 9); r.End != impl.EndHalt || len(r.Out) != 1 {
			t.Errorf("asking for %d words: %v", count, r)
		}
	}
}

func TestRunOfNumbersThatAreNoWords(t *testing.T) {
	m := imageOf("in r0; halt")
	for _, n := range noWords {
		checkNothing(t, m, []int{n}, 9)
		checkNothing(t, m, []int{n}, 0)
		// Also where the run does not ask for it.
		checkNothing(t, m, []int{1, n}, 9)
		checkNothing(t, m, append(zeros(19), n), 9)
		checkNothing(t, imageOf("halt"), []int{n, 1}, 9)
	}
}

// What is returned is new, and what is told stays.

// sharingRuns tell words, change memory, and ask for words.
func sharingRuns() []fueled {
	list := []fueled{
		{imageOf("in r0; in r1; out r0; storeb r2 r1 0; out r1; halt"), []int{7, 8, 9}, 50},
		{imageOf("halt"), nil, 50},
		{imageOf("storeb r0 r0 0; loadb r0 r0 9"), nil, 50},
		{imageOf(strings.Repeat("out r0; ", 61)), zeros(20), 100},
	}
	for _, m := range goodImages() {
		list = append(list, fueled{m, []int{1, 2, 3}, 100})
	}
	return append(list, someFueled()[:40]...)
}

func TestRunImageSharesNothing(t *testing.T) {
	for k, f := range sharingRuns() {
		m, in := copied(f.image), slices.Clone(f.in)
		want := wantRun(f.image, f.in, f.most)
		first, second := impl.RunImage(m, in, f.most), impl.RunImage(m, in, f.most)
		spoil(first.Out)
		if !slices.Equal(first.Mem, want.mem) {
			t.Errorf("what run %d told shares memory with what it left", k)
		}
		spoil(first.Mem)
		if !alike(m, f.image) || !slices.Equal(in, f.in) {
			t.Errorf("run %d shares memory with its arguments", k)
		}
		third := impl.RunImage(m, in, f.most)
		spoil(m.Code)
		spoil(m.Data)
		spoil(in)
		for _, r := range []impl.Result{second, third} {
			if !sameResult(told{end: r.End, out: r.Out, mem: r.Mem}, want) {
				t.Errorf("run %d shares memory: %v", k, r)
			}
		}
	}
}

func TestRunPlacesShareNothing(t *testing.T) {
	for k, f := range sharingRuns() {
		m, in := copied(f.image), slices.Clone(f.in)
		want := wantRun(f.image, f.in, f.most).places
		first, second := impl.RunPlaces(m, in, f.most), impl.RunPlaces(m, in, f.most)
		spoil(first)
		if !alike(m, f.image) || !slices.Equal(in, f.in) {
			t.Errorf("the places of run %d share memory with its arguments", k)
		}
		third := impl.RunPlaces(m, in, f.most)
		spoil(m.Code)
		spoil(m.Data)
		spoil(in)
		if !slices.Equal(second, want) || !slices.Equal(third, want) {
			t.Errorf("the places of run %d share memory: %v, %v", k, second, third)
		}
	}
}

func TestRunsChangeNothing(t *testing.T) {
	for k, f := range append(sharingRuns(), fueled{impl.Image{}, []int{-1}, 9}, fueled{imageOf("halt"), zeros(21), 9}) {
		g := guarded(f.image)
		in := append(slices.Clone(f.in), 55555)
		kept := slices.Clone(in)
		toldOf(g, in[:len(f.in)], f.most)
		toldOf(g, in[:len(f.in)], 4001)
		if !alike(g, f.image) || !isGuarded(g) || !slices.Equal(in, kept) {
			t.Errorf("run %d changed its arguments", k)
		}
	}
}
