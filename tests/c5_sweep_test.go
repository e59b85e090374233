package tests

import (
	"math"
	"slices"
	"strings"
	"testing"

	"loop.example/liftedcode/impl"
)

// listing is code with its listing, written out by hand from chapter 5: instructions by their texts, and byte with a byte.
type listing struct {
	code  []int
	lines string
}

// linesOf returns the lines that a text tells, one behind the other from the first place on.
func linesOf(text string) []impl.Line {
	var list []impl.Line
	at := 0
	for _, part := range strings.Split(text, ";") {
		parts := strings.Fields(part)
		switch {
		case len(parts) == 0:
		case parts[0] == "byte":
			list = append(list, impl.Line{At: at, Byte: bytesOfLine(parts, at)[0]})
			at++
		default:
			i := insOf(strings.Join(parts, " "))
			list = append(list, impl.Line{At: at, Is: true, Ins: i})
			at += wantLong(i)
		}
	}
	return list
}

func someListings() []listing {
	return []listing{
		{nil, ""},
		{[]int{0}, "halt"},
		{[]int{255}, "byte 255"},
		{[]int{3}, "byte 3"},
		{[]int{48, 5, 0, 24, 200, 0}, "set r0 5; out r0; byte 200; halt"},
		{[]int{2, 19, 32, 18, 52, 128, 64, 18, 255, 113, 2, 40, 0, 1}, "nop; push r3; move r1 r2; addn r0 -128; load r1 r2 255; table r1 2 40; ret"},
		{[]int{200, 201, 0, 202, 16, 203, 204}, "byte 200; byte 201; halt; byte 202; push r0; byte 203; byte 204"},
		// An instruction whose bytes end behind the code: the bytes that it has are listed each.
		{[]int{48}, "byte 48"},
		{[]int{48, 5}, "byte 48; byte 5"},
		{[]int{48, 24}, "byte 48; out r0"},
		{[]int{112, 1, 0}, "byte 112; ret; halt"},
		{[]int{112, 1, 48}, "byte 112; ret; byte 48"},
		{[]int{0, 52}, "halt; byte 52"},
		{[]int{96, 96, 96, 96}, "byte 96; byte 96; byte 96; byte 96"},
		{[]int{48, 48, 48, 48, 48}, "set r0 12336; byte 48; byte 48"},
		// First bytes of instructions whose other bytes are of none.
		{[]int{32, 64, 0}, "byte 32; byte 64; halt"},
		{[]int{32, 4, 1}, "byte 32; byte 4; ret"},
		{[]int{130, 1, 0, 0}, "byte 130; ret; halt; halt"},
		{[]int{112, 0, 0, 0}, "byte 112; halt; halt; halt"},
		{[]int{112, 9, 0, 0}, "byte 112; byte 9; halt; halt"},
		{[]int{88, 208, 7, 0}, "byte 88; byte 208; byte 7; halt"},
		{[]int{96, 207, 7}, "call 1999"},
		// Near jumps: to the first place, ahead of it, and behind the code.
		{[]int{80, 254}, "jump 0"},
		{[]int{80, 253}, "byte 80; byte 253"},
		{[]int{81, 128, 0}, "byte 81; grow 0"},
		{[]int{2, 86, 252, 0}, "nop; byte 86; byte 252; halt"},
		{[]int{2, 86, 253, 0}, "nop; if high 0; halt"},
		{[]int{80, 127}, "jump 129"},
		{[]int{80, 0}, "jump 2"},
		// Where an instruction ends is not where another one would: the bytes of the second one are not listed.
		{[]int{48, 48, 1, 0}, "set r0 304; halt"},
		{[]int{200, 48, 1, 0}, "byte 200; set r0 1"},
	}
}

// stands tells from chapter 2 which instruction stands at a place.
func stands(code []int, at int) (impl.Ins, bool) {
	if !between(at, 0, len(code)-1) {
		return impl.Ins{}, false
	}
	var list [4]int
	copy(list[:], code[at:])
	i, ok := wantRead(list, at)
	if !ok || at+wantLong(i) > len(code) {
		return impl.Ins{}, false
	}
	return i, true
}

// wantSweep tells from chapter 5 what the listing of code is.
func wantSweep(code []int) []impl.Line {
	var list []impl.Line
	behind := 0
	for at, n := range code {
		if at < behind {
			continue
		}
		i, ok := stands(code, at)
		behind = at + 1
		if ok {
			behind = at + wantLong(i)
			n = 0
		}
		list = append(list, impl.Line{At: at, Is: ok, Ins: i, Byte: n})
	}
	return list
}

// wantLines tells from chapter 5 whether lines are a listing, and of which bytes.
func wantLines(list []impl.Line) ([]int, bool) {
	var code []int
	for _, line := range list {
		part := []int{line.Byte}
		if line.Is {
			part, _ = impl.InsPut(line.Ins, line.At)
		}
		code = append(code, part...)
	}
	for _, n := range code {
		if !between(n, 0, 255) {
			return nil, false
		}
	}
	if len(code) > 2000 || !slices.Equal(wantSweep(code), list) {
		return nil, false
	}
	return code, true
}

// brief is what is told of a list in a message.
func brief[T any](list []T) []T {
	return list[:min(len(list), 40)]
}

// checkSweep compares a listing with the second reading of chapter 5, and reads it again.
func checkSweep(t *testing.T, code []int) []impl.Line {
	t.Helper()
	list := impl.SweepOf(code)
	if want := wantSweep(code); !slices.Equal(list, want) {
		t.Errorf("SweepOf(%v) has %d lines, %v, not %d, %v", brief(code), len(list), brief(list), len(want), brief(want))
	}
	if back, ok := impl.SweepBytes(list); !ok || !slices.Equal(back, code) {
		t.Errorf("SweepBytes of the listing of %v = %v, %t", brief(code), brief(back), ok)
	}
	return list
}

// checkNoListing checks what is told of lines that are no listing.
func checkNoListing(t *testing.T, list []impl.Line) {
	t.Helper()
	if code, ok := impl.SweepBytes(list); ok || len(code) != 0 {
		t.Errorf("SweepBytes of %d lines, %v .. = %v, %t", len(list), brief(list), brief(code), ok)
	}
}

// checkLines compares what lines are read as with the second reading, and reports whether they are a listing.
func checkLines(t *testing.T, list []impl.Line) bool {
	t.Helper()
	want, is := wantLines(list)
	if !is {
		checkNoListing(t, list)
		return false
	}
	code, ok := impl.SweepBytes(list)
	if !ok || !slices.Equal(code, want) {
		t.Errorf("SweepBytes(%v) = %v, %t, not %v", brief(list), brief(code), ok, brief(want))
	}
	if again := impl.SweepOf(code); !slices.Equal(again, list) {
		t.Errorf("the bytes of the listing %v have the listing %v", brief(list), brief(again))
	}
	return true
}

// sameBytes is code of one byte again and again.
func sameBytes(n int, long int) []int {
	return slices.Repeat([]int{n}, long)
}

// someCodes has code of all lengths at the ends of the range, and of all kinds of bytes.
func someCodes() [][]int {
	var list [][]int
	for _, s := range someListings() {
		list = append(list, s.code)
	}
	for _, long := range []int{1, 2, 3, 4, 5, 127, 128, 129, 130, 131, 1996, 1997, 1998, 1999, 2000} {
		list = append(list, codeOf(long))
		for _, n := range []int{0, 48, 80, 82, 96, 112, 128, 255} {
			list = append(list, sameBytes(n, long))
		}
	}
	l := &lot{state: 20}
	for range 3000 {
		list = append(list, l.code())
		var bytes []int
		for range l.next(12) {
			bytes = append(bytes, l.next(256))
		}
		list = append(list, bytes)
	}
	return list
}

// Promise 20: a listing tells all bytes.

func TestPromise20Values(t *testing.T) {
	for _, s := range someListings() {
		want := linesOf(s.lines)
		if list := impl.SweepOf(s.code); !slices.Equal(list, want) {
			t.Errorf("SweepOf(%v) = %v, not %v", s.code, list, want)
		}
		if code, ok := impl.SweepBytes(want); !ok || !slices.Equal(code, s.code) {
			t.Errorf("SweepBytes(%v) = %v, %t, not %v", want, code, ok, s.code)
		}
	}
}

func TestPromise20AllBytes(t *testing.T) {
	for _, code := range someCodes() {
		checkSweep(t, code)
	}
}

func TestPromise20AllFirstBytes(t *testing.T) {
	for first := range 256 {
		for second := range 256 {
			checkSweep(t, []int{first, second})
			checkSweep(t, []int{2, first, second, 2, 0, 24})
		}
	}
}

func TestPromise20Samples(t *testing.T) {
	for _, s := range samples {
		code := append(sameBytes(2, s.at), s.bytes...)
		if len(code) > 2000 {
			continue
		}
		list := checkSweep(t, code)
		if last := list[len(list)-1]; !last.Is || last.Ins != s.ins {
			t.Errorf("the listing of %q ends with %v", s.text, last)
		}
		// Without its last bytes it is none.
		for less := 1; less < len(s.bytes); less++ {
			checkSweep(t, code[:len(code)-less])
		}
	}
}

func TestPromise20TheLongestCode(t *testing.T) {
	for _, n := range []int{2, 255} {
		list := checkSweep(t, sameBytes(n, 2000))
		if len(list) != 2000 || list[1999].At != 1999 {
			t.Errorf("%d lines", len(list))
		}
	}
	ends := map[string][]int{
		"jump 1999":              {80, 255},
		"byte 80; halt":          {80, 0},
		"if low 1998":            {85, 254},
		"table r3 8 1999":        {115, 8, 207, 7},
		"byte 115; byte 8; halt": {115, 8, 0},
		"byte 48":                {48},
	}
	for text, bytes := range ends {
		from := 2000 - len(bytes)
		list := checkSweep(t, append(sameBytes(2, from), bytes...))
		want := linesOf(text)
		for k := range want {
			want[k].At += from
		}
		if len(list) != from+len(want) || !slices.Equal(list[from:], want) {
			t.Errorf("the last lines of %v are %v, not %v", bytes, list[from:], want)
		}
	}
}

func TestPromise20NoCode(t *testing.T) {
	for _, long := range []int{2001, 2002, 4000, 65537} {
		for _, n := range []int{0, 2, 48, 112, 255} {
			if list := impl.SweepOf(sameBytes(n, long)); len(list) != 0 {
				t.Errorf("the listing of %d bytes has %d lines", long, len(list))
			}
		}
	}
	for _, n := range noBytes {
		for _, code := range [][]int{{n}, {n, 0}, {0, n}, {48, 1, n}, {48, n, 0}, {0, 0, 0, n}, append(sameBytes(2, 1999), n)} {
			if list := impl.SweepOf(code); len(list) != 0 {
				t.Errorf("SweepOf(%v) = %v", brief(code), brief(list))
			}
		}
	}
}

// Promise 21: bytes have one listing.

func TestPromise21OneLineLess(t *testing.T) {
	for _, s := range someListings() {
		list := linesOf(s.lines)
		for k := range list {
			less := slices.Concat(list[:k], list[k+1:])
			is := checkLines(t, less)
			if is && k < len(list)-1 {
				t.Errorf("%q without line %d is a listing", s.lines, k)
			}
		}
	}
	// The listing of fewer bytes is one, but not if what is left would have been read in another way.
	if !checkLines(t, linesOf("nop; halt")[:1]) || !checkLines(t, linesOf("byte 48; byte 5")[:1]) {
		t.Error("a listing without its last line is none")
	}
}

func TestPromise21OneLineMore(t *testing.T) {
	for _, s := range someListings() {
		list := linesOf(s.lines)
		for k := range list {
			checkNoListing(t, slices.Concat(list[:k+1], list[k:]))
			checkNoListing(t, slices.Concat([]impl.Line{list[k]}, list))
		}
		checkNoListing(t, append(list, impl.Line{}))
		checkNoListing(t, append(list, impl.Line{At: len(s.code) + 1, Byte: 255}))
		checkNoListing(t, append(list, impl.Line{At: len(s.code) - 1, Byte: 255}))
	}
}

func TestPromise21OtherOrder(t *testing.T) {
	for _, s := range someListings() {
		list := linesOf(s.lines)
		for k := range list {
			for l := range k {
				swapped := slices.Clone(list)
				swapped[k], swapped[l] = swapped[l], swapped[k]
				checkNoListing(t, swapped)
			}
		}
	}
}

func TestPromise21OtherPlaces(t *testing.T) {
	for _, s := range someListings() {
		list := linesOf(s.lines)
		for k := range list {
			for _, far := range []int{-2000, -256, -1, 1, 2, 256, 2000, 65536} {
				other := slices.Clone(list)
				other[k].At += far
				checkNoListing(t, other)
				for l := k; l < len(other); l++ {
					other[l].At = list[l].At + far
				}
				checkNoListing(t, other)
			}
			for _, at := range noPlaces {
				other := slices.Clone(list)
				other[k].At = at
				checkNoListing(t, other)
			}
		}
	}
}

func TestPromise21BytesThatAreInstructions(t *testing.T) {
	for n := range 256 {
		_, is := stands([]int{n}, 0)
		line := impl.Line{Byte: n}
		if checkLines(t, []impl.Line{line}) == is {
			t.Errorf("the byte %d alone is a listing: %t", n, is)
		}
	}
	texts := []string{
		"byte 48; byte 5; halt",
		"byte 48; halt; halt",
		"byte 48; out r0; byte 200",
		"byte 48; nop; nop",
		"set r0 5; byte 0",
		"halt; byte 52; byte 200",
		"byte 52; halt",
		"byte 32; halt",
		"byte 112; ret; halt; halt",
		"byte 80; nop",
		"byte 80; byte 254",
		"byte 96; set r0 5",
		"byte 200; byte 16",
	}
	for _, text := range texts {
		checkNoListing(t, linesOf(text))
	}
}

func TestPromise21FieldsWithoutMeaning(t *testing.T) {
	for _, s := range someListings() {
		list := linesOf(s.lines)
		for k, line := range list {
			others := []impl.Line{{At: line.At, Is: !line.Is, Ins: line.Ins, Byte: line.Byte}}
			if line.Is {
				for _, n := range []int{math.MinInt, -1, 1, s.code[line.At], 255, 256, math.MaxInt} {
					if n != 0 {
						others = append(others, impl.Line{At: line.At, Is: true, Ins: line.Ins, Byte: n})
					}
				}
			} else {
				for _, i := range []impl.Ins{{Op: 1}, {A: 1}, {B: 1}, {N: 1}, {Op: -1}, {A: -1}, {B: -1}, {N: -1}, {Op: 2}, {Op: impl.OpSet, N: 5}} {
					others = append(others, impl.Line{At: line.At, Ins: i, Byte: line.Byte})
				}
			}
			for _, other := range others {
				changed := slices.Clone(list)
				changed[k] = other
				checkNoListing(t, changed)
			}
		}
	}
}

func TestPromise21NoBytesAndNoInstructions(t *testing.T) {
	for _, n := range noBytes {
		checkNoListing(t, []impl.Line{{Byte: n}})
		checkNoListing(t, []impl.Line{{Is: true}, {At: 1, Byte: n}})
		checkNoListing(t, []impl.Line{{Byte: n}, {At: 1, Is: true}})
		checkNoListing(t, []impl.Line{{Byte: 200}, {At: 1, Byte: n}, {At: 2, Byte: 201}})
	}
	eachNoIns(func(i impl.Ins) {
		checkNoListing(t, []impl.Line{{Is: true, Ins: i}})
	})
}

func TestPromise21InstructionsAtTheirPlaces(t *testing.T) {
	for _, s := range samples {
		for _, at := range []int{0, 1, 127, 130, 1000, 1995, 1996, 1997, 1998, 1999} {
			list := append(wantSweep(sameBytes(2, at)), impl.Line{At: at, Is: true, Ins: s.ins})
			want := at+len(s.bytes) <= 2000 && !tooFar(s.ins, at)
			if checkLines(t, list) != want {
				t.Errorf("%q at %d is a listing: %t", s.text, at, !want)
			}
		}
	}
}

func TestPromise21AsManyBytesAsMayBe(t *testing.T) {
	lines := func(line impl.Line, long int, count int) []impl.Line {
		var list []impl.Line
		for k := range count {
			line.At = k * long
			list = append(list, line)
		}
		return list
	}
	lone := impl.Line{Byte: 255}
	for count, want := range map[int]bool{0: true, 1: true, 1999: true, 2000: true, 2001: false, 4000: false, 65537: false} {
		if checkLines(t, lines(lone, 1, count)) != want {
			t.Errorf("%d bytes are a listing: %t", count, !want)
		}
	}
	for _, text := range []string{"nop", "move r1 r2", "set r0 5", "table r1 2 40"} {
		i := insOf(text)
		long := wantLong(i)
		most := 2000 / long
		line := impl.Line{Is: true, Ins: i}
		if !checkLines(t, lines(line, long, most)) || checkLines(t, lines(line, long, most+1)) || checkLines(t, lines(line, long, 2000+1)) {
			t.Errorf("%q, listed %d times and more", text, most)
		}
	}
	// A byte more than 2000, with an instruction at the end.
	checkNoListing(t, append(lines(lone, 1, 1999), impl.Line{At: 1999, Is: true, Ins: insOf("move r1 r2")}))
}

func TestPromise21LinesOfAllKinds(t *testing.T) {
	l := &lot{state: 21}
	kinds := map[bool]int{}
	for range 20000 {
		var list []impl.Line
		at := 0
		for range l.next(6) {
			line := impl.Line{At: at, Byte: l.oneOf(0, 2, 32, 48, 52, 80, 82, 112, 200, 255, l.next(256))}
			long := 1
			if l.next(2) == 0 {
				line = impl.Line{At: at, Is: true, Ins: l.ins(12)}
				long = wantLong(line.Ins)
			}
			list = append(list, line)
			at += long
		}
		if len(list) > 0 {
			kinds[checkLines(t, list)]++
		}
	}
	if kinds[true] < 2000 || kinds[false] < 2000 {
		t.Errorf("lines that are a listing, or none: %v", kinds)
	}
}

// flow is an image with what chapter 5 tells of it, written out by hand.
type flow struct {
	program string
	entry   int
	follow  []int
	sound   bool
	pairs   []impl.Pair
	letters string
}

func (f flow) image() impl.Image {
	m := imageOf(f.program)
	m.Entry = f.entry
	return m
}

// flowsOfOne have instructions that follow each other, and ends of the code.
func flowsOfOne() []flow {
	return []flow{
		{"halt", 0, []int{0}, true, nil, "i"},
		{"ret", 0, []int{0}, true, nil, "i"},
		{"byte 255", 0, nil, false, nil, "."},
		{"byte 3; halt", 0, nil, false, nil, ".."},
		{"byte 48; byte 5", 0, nil, false, nil, ".."},
		{"nop", 0, []int{0}, false, nil, "i"},
		{"nop; halt", 0, []int{0, 1}, true, nil, "ii"},
		{"nop; halt", 1, []int{1}, true, nil, ".i"},
		{"halt; nop; ret", 0, []int{0}, true, nil, "i.."},
		{"ret; nop; ret", 0, []int{0}, true, nil, "i.."},
		{"halt; nop; ret", 1, []int{1, 2}, true, nil, ".ii"},
		{"set r0 5; out r0; halt", 0, []int{0, 3, 4}, true, nil, "i--ii"},
		{"set r0 5; out r0; halt", 3, []int{3, 4}, true, nil, "...ii"},
		// Begun within an instruction: 5 is none, and 0 halts.
		{"set r0 5; out r0; halt", 1, nil, false, nil, "....."},
		{"set r0 5; out r0; halt", 2, []int{2}, true, nil, "..i.."},
		{"nop; byte 255; halt", 0, []int{0}, false, nil, "i.."},
		{"out r0; byte 255", 0, []int{0}, false, nil, "i."},
		// The next one ends behind the code.
		{"nop; byte 48; byte 1", 0, []int{0}, false, nil, "i.."},
		{"nop; byte 112; byte 1; byte 0", 0, []int{0}, false, nil, "i..."},
		{"push r1; pop r2; in r3; move r1 r2; cmp r1 r2; cmpn r1 -1; local r0 0; keep r0 0; grow 1; drop 1; low r0 r1; xor r0 r1; store r0 r1 0; ret; nop", 0,
			[]int{0, 1, 2, 3, 5, 7, 9, 12, 15, 17, 19, 21, 23, 26}, true, nil, "iiii-i-i-i--i--i-i-i-i-i--i."},
	}
}

// flowsOfJumps have jumps, choices and calls.
func flowsOfJumps() []flow {
	return []flow{
		{"jump 0", 0, []int{0}, true, nil, "i-"},
		{"jump far 0", 0, []int{0}, true, nil, "i--"},
		{"jump @a; byte 255; @a:; halt", 0, []int{0, 3}, true, nil, "i-.i"},
		{"jump far @a; byte 255; @a:; halt", 0, []int{0, 4}, true, nil, "i--.i"},
		{"@a:; halt; nop; jump @a", 1, []int{0, 1, 2}, true, nil, "iii-"},
		// What follows a jump is not reached.
		{"jump 2", 0, []int{0}, false, nil, "i-"},
		{"jump far 1999", 0, []int{0}, false, nil, "i--"},
		{"jump 129; halt", 0, []int{0}, false, nil, "i-."},
		{"jump @a; halt; @a:; byte 255", 0, []int{0}, false, nil, "i-.."},
		{"if less @a; out r0; halt; @a:; ret", 0, []int{0, 2, 3, 4}, true, nil, "i-iii"},
		{"if less far @a; out r0; halt; @a:; ret", 0, []int{0, 3, 4, 5}, true, nil, "i--iii"},
		{"if equal 2; halt", 0, []int{0, 2}, true, nil, "i-i"},
		{"if equal 0", 0, []int{0}, false, nil, "i-"},
		{"if equal 0; byte 255", 0, []int{0}, false, nil, "i-."},
		{"if high 3; halt", 0, []int{0, 2}, false, nil, "i-i"},
		{"if high far 1999; halt", 0, []int{0, 3}, false, nil, "i--i"},
		{"if low @a; halt; @a:; byte 255", 0, []int{0, 2}, false, nil, "i-i."},
		{"call @f; halt; byte 255; @f:; out r0; ret", 0, []int{0, 3, 5, 6}, true, nil, "i--i.ii"},
		// What follows a call is reached, also if what is called does not return.
		{"call @f; out r0; ret; @f:; halt", 0, []int{0, 3, 4, 5}, true, nil, "i--iii"},
		{"call 0", 0, []int{0}, false, nil, "i--"},
		{"call 0; ret", 0, []int{0, 3}, true, nil, "i--i"},
		{"call @f; @f:; ret", 0, []int{0, 3}, true, nil, "i--i"},
		{"call 4; halt", 0, []int{0, 3}, false, nil, "i--i"},
		{"call 1999; halt", 0, []int{0, 3}, false, nil, "i--i"},
		{"call 4; halt; byte 255", 0, []int{0, 3}, false, nil, "i--i."},
		{"@f:; ret; call @f", 1, []int{0, 1}, false, nil, "ii--"},
		// A function within a function, that is not called.
		{"halt; call @f; ret; @f:; call @f; ret", 0, []int{0}, true, nil, "i........"},
		{"halt; call @f; ret; @f:; call @f; ret", 1, []int{1, 4, 5, 8}, true, nil, ".i--ii--i"},
	}
}

// flowsOfTables have tables, also ones that are not all in the code.
func flowsOfTables() []flow {
	return []flow{
		{"in r0; table r0 2 @t; halt; @t:; word @a; word @b; @a:; out r0; halt; @b:; ret", 0, []int{0, 1, 5, 10, 11, 12}, true, nil, "ii---ittttiii"},
		// At the end of the code, and one byte and more behind it.
		{"table r1 1 @t; @a:; halt; @t:; word @a", 0, []int{0, 4}, true, nil, "i---itt"},
		{"table r1 2 @t; @a:; halt; @b:; ret; @t:; word @a; word @b", 0, []int{0, 4, 5}, true, nil, "i---iitttt"},
		{"table r1 2 @t; @a:; halt; @b:; ret; @t:; word @a; byte 5", 0, []int{0, 4}, false, nil, "i---i.ttt"},
		{"table r1 2 @t; @a:; halt; @b:; ret; @t:; word @b", 0, []int{0, 4}, false, nil, "i---i.tt"},
		{"table r1 2 @t; @a:; halt; @b:; ret; @t:; byte 5", 0, []int{0, 4}, false, nil, "i---i.t"},
		{"table r1 2 @t; @a:; halt; @b:; ret; @t:", 0, []int{0, 4}, false, nil, "i---i."},
		{"table r1 1 1999; halt", 0, []int{0, 4}, false, nil, "i---i"},
		{"table r1 8 5; halt", 0, []int{0, 4}, false, nil, "i---i"},
		{"table r1 8 4; halt; byte 255", 0, []int{0, 4}, false, nil, "i---it"},
		// One place of several is not in the code, or no instruction stands there.
		{"table r1 2 @t; halt; @t:; word 4; word 9", 0, []int{0, 4}, false, nil, "i---itttt"},
		{"table r1 2 @t; halt; @t:; word 65535; word 4", 0, []int{0, 4}, false, nil, "i---itttt"},
		{"table r1 3 @t; halt; @t:; word 4; word 11; word 4; byte 255", 0, []int{0, 4}, false, nil, "i---itttttt."},
		{"table r1 3 @t; halt; @t:; word 4; word 11; word 4; ret", 0, []int{0, 4, 11}, true, nil, "i---itttttti"},
		// What follows a table is reached.
		{"table r1 1 @t; byte 255; @t:; word 0", 0, []int{0}, false, nil, "i---.tt"},
		{"jump @b; @t:; word 8; @b:; table r3 1 @t; halt", 0, []int{0, 4, 8}, true, nil, "i-tti---i"},
		{"jump @b; @t:; word 8; @b:; table r3 1 @t", 0, []int{0, 4}, false, nil, "i-tti---"},
		// Two tables of the same bytes, and the tables of instructions that are not reached.
		{"table r0 1 @t; table r1 2 @t; halt; @t:; word 8; word 8", 0, []int{0, 4, 8}, true, nil, "i---i---itttt"},
		{"halt; table r0 1 @t; @t:; word 0", 0, []int{0}, true, nil, "i......"},
		{"halt; table r0 8 @t; @t:; word 0", 0, []int{0}, true, nil, "i......"},
		{"table r0 1 @t; halt; table r1 2 @u; @t:; word 4; @u:; word 4; word 4", 0, []int{0, 4}, true, nil, "i---i....tt...."},
		// What is not in the code stays so, whatever is reached behind it or ahead of it.
		{"call 1999; table r0 1 @t; halt; @t:; word 7", 0, []int{0, 3, 7}, false, nil, "i--i---itt"},
		{"if equal far 1999; table r0 1 @t; halt; @t:; word 7", 0, []int{0, 3, 7}, false, nil, "i--i---itt"},
		{"table r0 1 1999; table r0 1 @t; halt; @t:; word 8", 0, []int{0, 4, 8}, false, nil, "i---i---itt"},
		{"table r0 1 @t; table r0 1 1999; halt; @t:; word 8", 0, []int{0, 4, 8}, false, nil, "i---i---itt"},
		{"table r0 1 @t; table r0 1 @t; byte 255; @t:; word 4", 0, []int{0, 4}, false, nil, "i---i---.tt"},
		// A place that is reached by a table alone has a table itself.
		{"table r0 1 @t; halt; @t:; word @a; @a:; table r1 1 @u; ret; @u:; word 4", 0, []int{0, 4, 7, 11}, true, nil, "i---itti---itt"},
	}
}

// flowsOfOverlaps have instructions, and tables, that overlap.
func flowsOfOverlaps() []flow {
	return []flow{
		// Into the first instruction, and from there to its end, or behind it.
		{"set r0 24; jump 1", 0, []int{0, 1, 2, 3}, true, pairs(0, 1, 0, 2), "iiii-"},
		{"set r0 536; jump 1", 0, []int{0, 1, 2, 3}, true, pairs(0, 1, 0, 2), "iiii-"},
		{"set r0 24; jump 1", 1, []int{1, 2}, true, nil, ".ii.."},
		{"set r0 24; jump 1", 3, []int{1, 2, 3}, true, nil, ".iii-"},
		{"jump 3; set r0 24", 0, []int{0, 3, 4}, true, nil, "i-.ii"},
		{"if equal 1; halt", 0, []int{0, 2}, false, nil, "i-i"},
		{"if equal 3; set r0 24; ret", 0, []int{0, 2, 3, 4, 5}, true, pairs(2, 3, 2, 4), "i-iiii"},
		{"call 1; halt", 0, []int{0, 1, 3}, true, pairs(0, 1), "ii-i"},
		{"jump far 1", 0, []int{0, 1}, true, pairs(0, 1), "ii-"},
		// Each one within the one ahead of it: at 1 stands set r0 12288.
		{"byte 50; byte 48; byte 0; byte 48; byte 1; byte 0; jump 1", 0, []int{0, 1, 3, 4, 6}, true, pairs(0, 1, 1, 3, 3, 4), "ii-ii-i-"},
		// All bytes of a table instruction.
		{"table r0 2 16; jump 1; " + strings.Repeat("byte 255; ", 10) + "word 0; word 4", 0, []int{0, 1, 2, 3, 4}, true, pairs(0, 1, 0, 2, 0, 3), "iiiii-..........tttt"},
		// The table is within the table instruction.
		{"table r0 1 2; halt", 0, []int{0, 2, 3, 4}, true, pairs(0, 2, 0, 3), "i-iii"},
		{"table r0 1 0; halt", 0, []int{0, 4}, false, nil, "i---i"},
		{"table r0 1 1; ret", 0, []int{0, 4}, false, nil, "i---i"},
		// The table is within another instruction, or has one.
		{"table r0 1 4; word 52; halt; " + strings.Repeat("nop; ", 45) + "ret", 0, []int{0, 4, 6, 52}, true, nil, "i---i-i" + strings.Repeat(".", 45) + "i"},
		{"table r0 1 5; set r0 4; halt", 0, []int{0, 4, 7}, true, nil, "i---i--i"},
		{"table r0 1 4; set r0 0", 0, []int{0, 4}, false, nil, "i---i--"},
		{"table r0 1 3; halt; halt", 0, []int{0, 4}, true, nil, "i---i."},
		{"table r0 1 @t; @t:; halt; byte 0", 0, []int{0, 4}, true, nil, "i---it"},
		{"table r0 1 @t; jump @a; @t:; byte 4; @a:; byte 0", 0, []int{0, 4, 7}, true, nil, "i---i-ti"},
		{"table r0 1 @t; jump 7; @t:; byte 4; set r0 0; halt", 0, []int{0, 4, 7, 10}, false, nil, "i---i-ti--i"},
		// A table leads into itself: to an instruction there, or to none.
		{"table r0 1 @t; halt; @t:; byte 6; byte 0", 0, []int{0, 4, 6}, true, nil, "i---iti"},
		{"table r0 1 @t; halt; @t:; word 5", 0, []int{0, 4}, false, nil, "i---itt"},
		{"table r0 2 @t; halt; @t:; word 6; word 2", 0, []int{0, 4, 6}, false, nil, "i---ititt"},
		// Two tables overlap, the second one not whole.
		{"table r0 2 @t; table r0 2 @u; halt; @t:; word 0; @u:; word 4; byte 8", 0, []int{0, 4, 8}, false, nil, "i---i---ittttt"},
	}
}

func pairs(places ...int) []impl.Pair {
	var list []impl.Pair
	for k := 0; k < len(places); k += 2 {
		list = append(list, impl.Pair{A: places[k], B: places[k+1]})
	}
	return list
}

func someFlows() []flow {
	return slices.Concat(flowsOfOne(), flowsOfJumps(), flowsOfTables(), flowsOfOverlaps())
}

// charted is what the functions of chapter 5 tell of an image but for its tables.
type charted struct {
	follow  []int
	sound   bool
	pairs   []impl.Pair
	letters string
}

func chartedOf(m impl.Image) charted {
	return charted{impl.FollowOf(m), impl.Sound(m), impl.OverlapsOf(m), impl.CodeMap(m)}
}

func sameCharted(a charted, b charted) bool {
	return slices.Equal(a.follow, b.follow) && a.sound == b.sound && slices.Equal(a.pairs, b.pairs) && a.letters == b.letters
}

// wantTable tells from chapter 5 which places the table of an instruction has; false if it is not all in the code.
func wantTable(code []int, i impl.Ins) ([]int, bool) {
	var list []int
	for k := range i.B {
		low, high := i.N+2*k, i.N+2*k+1
		if high >= len(code) {
			return nil, false
		}
		list = append(list, code[low]+256*code[high])
	}
	return list, true
}

// wantLeads tells from chapter 5 where an instruction leads, and what follows it; false if its table is not all in the code.
func wantLeads(code []int, at int) ([]int, bool) {
	i, _ := stands(code, at)
	behind := at + wantLong(i)
	switch {
	case i.Op == impl.OpHalt || i.Op == impl.OpRet:
		return nil, true
	case i.Op == impl.OpJump:
		return []int{i.N}, true
	case i.Op == impl.OpIf || i.Op == impl.OpCall:
		return []int{behind, i.N}, true
	case i.Op == impl.OpTable:
		places, whole := wantTable(code, i)
		return append(places, behind), whole
	}
	return []int{behind}, true
}

// wantReached grows the set of places that are reached until it stays.
func wantReached(m impl.Image) ([]bool, bool) {
	reached := make([]bool, len(m.Code))
	_, sound := stands(m.Code, m.Entry)
	reached[m.Entry] = sound
	for grows := true; grows; {
		grows = false
		for at := range m.Code {
			if !reached[at] {
				continue
			}
			leads, whole := wantLeads(m.Code, at)
			sound = sound && whole
			for _, to := range leads {
				if _, ok := stands(m.Code, to); !ok {
					sound = false
				} else if !reached[to] {
					reached[to], grows = true, true
				}
			}
		}
	}
	return reached, sound
}

// wantCharted is a second reading of chapter 5, place by place.
func wantCharted(m impl.Image) charted {
	reached, sound := wantReached(m)
	c := charted{sound: sound}
	letters := make([]byte, len(m.Code))
	for b := range m.Code {
		letters[b] = wantLetter(m.Code, reached, b)
		if reached[b] {
			c.follow = append(c.follow, b)
		}
	}
	for _, a := range c.follow {
		i, _ := stands(m.Code, a)
		for _, b := range c.follow {
			if between(b, a+1, a+wantLong(i)-1) {
				c.pairs = append(c.pairs, impl.Pair{A: a, B: b})
			}
		}
	}
	c.letters = string(letters)
	return c
}

func wantLetter(code []int, reached []bool, b int) byte {
	if reached[b] {
		return 'i'
	}
	letter := byte('.')
	for a := range code {
		if !reached[a] {
			continue
		}
		i, _ := stands(code, a)
		if between(b, a, a+wantLong(i)-1) {
			return '-'
		}
		if i.Op == impl.OpTable && between(b, i.N, i.N+2*i.B-1) {
			letter = 't'
		}
	}
	return letter
}

// checkCharted compares what is told of an image with the second reading, and returns it.
func checkCharted(t *testing.T, m impl.Image) charted {
	t.Helper()
	got, want := chartedOf(m), wantCharted(m)
	if !sameCharted(got, want) {
		t.Errorf("of %v, from %d on, is told %q, %t, %v, %v, not %q, %t, %v, %v", brief(m.Code), m.Entry,
			got.letters, got.sound, brief(got.follow), brief(got.pairs), want.letters, want.sound, brief(want.follow), brief(want.pairs))
	}
	return got
}

// checkTables compares the tables of all places of an image with the second reading, and returns how many there are, and how many instructions have none.
func checkTables(t *testing.T, m impl.Image) (int, int) {
	t.Helper()
	tables, others := 0, 0
	for at := -1; at <= len(m.Code)+1; at++ {
		i, ok := stands(m.Code, at)
		if !ok || i.Op != impl.OpTable {
			checkNoTable(t, m, at)
			continue
		}
		want, whole := wantTable(m.Code, i)
		if !whole {
			others++
			checkNoTable(t, m, at)
			continue
		}
		tables++
		if list, ok := impl.TableOf(m, at); !ok || !slices.Equal(list, want) || len(list) != i.B {
			t.Errorf("TableOf(%v, %d) = %v, %t, not %v", brief(m.Code), at, list, ok, want)
		}
	}
	return tables, others
}

func checkNoTable(t *testing.T, m impl.Image, at int) {
	t.Helper()
	if list, ok := impl.TableOf(m, at); ok || len(list) != 0 {
		t.Errorf("TableOf of %d bytes at %d = %v, %t", len(m.Code), at, list, ok)
	}
}

// chartedImages has images of all kinds.
func chartedImages() []impl.Image {
	list := goodImages()
	for _, f := range someFlows() {
		m := f.image()
		for entry := range m.Code {
			list = append(list, impl.Image{Code: m.Code, Entry: entry})
		}
	}
	l := &lot{state: 23}
	for range 4000 {
		m := l.image()
		if l.next(3) == 0 {
			// With what halts at most places, more images are sound.
			for k := range m.Code {
				if l.next(4) == 0 {
					m.Code[k] = l.next(3)
				}
			}
		}
		list = append(list, m)
	}
	return list
}

func TestFlowsAreTold(t *testing.T) {
	for _, f := range someFlows() {
		want := charted{f.follow, f.sound, f.pairs, f.letters}
		if got := chartedOf(f.image()); !sameCharted(got, want) {
			t.Errorf("of %q, from %d on, is told %v, not %v", f.program, f.entry, got, want)
		}
		checkCharted(t, f.image())
	}
}

func TestImagesOfAllKindsAreTold(t *testing.T) {
	counts := map[string]int{}
	for _, m := range chartedImages() {
		got := checkCharted(t, m)
		for _, letter := range "i-t." {
			counts[string(letter)] += strings.Count(got.letters, string(letter))
		}
		if got.sound {
			counts["sound"]++
			counts["reached in sound ones"] += len(got.follow)
		} else {
			counts["other"]++
		}
		counts["pairs"] += len(got.pairs)
	}
	for _, what := range []string{"i", "-", "t", ".", "sound", "other", "reached in sound ones", "pairs"} {
		if counts[what] < 300 {
			t.Errorf("just %d of %s", counts[what], what)
		}
	}
}

func TestAllFirstBytesAreTold(t *testing.T) {
	for first := range 256 {
		for second := range 256 {
			checkCharted(t, impl.Image{Code: []int{first, second, 2, 0, 1, 0, 4, 0}})
			checkCharted(t, impl.Image{Code: []int{2, first, second}})
		}
	}
}

// Promise 22: a table has as many places as its instruction tells.

func TestPromise22Values(t *testing.T) {
	cases := []struct {
		program string
		at      int
		want    []int
	}{
		{"in r0; table r0 2 @t; halt; @t:; word 10; word 12; nop; halt; halt", 1, []int{10, 12}},
		{"table r3 1 @t; @t:; word 0", 0, []int{0}},
		{"table r3 1 @t; @t:; word 65535", 0, []int{65535}},
		{"table r3 3 @t; @t:; word 256; word 255; word 513", 0, []int{256, 255, 513}},
		{"table r0 8 @t; @t:; word 8; word 7; word 6; word 5; word 4; word 3; word 2; word 1", 0, []int{8, 7, 6, 5, 4, 3, 2, 1}},
		{"@t:; word 7; word 7; halt; table r2 2 @t", 5, []int{7, 7}},
		// Within the instruction itself, and over its end.
		{"table r0 1 0", 0, []int{368}},
		{"table r0 2 0", 0, []int{624, 0}},
		{"table r0 2 2; halt; halt", 0, []int{2, 0}},
		// Not reached, and within the bytes of another instruction.
		{"halt; table r1 1 @t; @t:; word 9", 1, []int{9}},
		{"byte 48; table r1 1 0", 1, []int{28976}},
	}
	for _, c := range cases {
		if list, ok := impl.TableOf(imageOf(c.program), c.at); !ok || !slices.Equal(list, c.want) {
			t.Errorf("TableOf of %q at %d = %v, %t, not %v", c.program, c.at, list, ok, c.want)
		}
	}
}

func TestPromise22AsManyPlaces(t *testing.T) {
	for count := 1; count <= 8; count++ {
		for _, far := range []int{0, 1, 2, 250, 1979} {
			code := append([]int{112, count, (far + 4) % 256, (far + 4) / 256}, sameBytes(255, far)...)
			var want []int
			for k := range count {
				code = append(code, k*50%256, 7-k)
				want = append(want, k*50%256+256*(7-k))
			}
			if list, ok := impl.TableOf(impl.Image{Code: code}, 0); !ok || !slices.Equal(list, want) {
				t.Errorf("TableOf = %v, %t, not %v", list, ok, want)
			}
			// With a byte more it is the same, with bytes less there is none.
			if list, ok := impl.TableOf(impl.Image{Code: append(slices.Clone(code), 9)}, 0); !ok || !slices.Equal(list, want) {
				t.Errorf("TableOf = %v, %t, not %v", list, ok, want)
			}
			for less := 1; less <= 2*count; less++ {
				checkNoTable(t, impl.Image{Code: code[:len(code)-less]}, 0)
			}
		}
	}
}

func TestPromise22AllPlaces(t *testing.T) {
	tables, others := 0, 0
	for _, m := range chartedImages() {
		some, none := checkTables(t, m)
		tables += some
		others += none
	}
	if tables < 300 || others < 300 {
		t.Errorf("%d tables, and %d that are not all in the code", tables, others)
	}
}

func TestPromise22AtTheEndOfTheLongestCode(t *testing.T) {
	for from := 1980; from <= 1999; from++ {
		for count := 1; count <= 8; count++ {
			code := sameBytes(7, 2000)
			copy(code, []int{113, count, from % 256, from / 256})
			m := impl.Image{Code: code}
			list, ok := impl.TableOf(m, 0)
			if is := from+2*count <= 2000; ok != is || is && !slices.Equal(list, sameBytes(1799, count)) || !is && len(list) != 0 {
				t.Errorf("a table of %d places at %d is told as %v, %t", count, from, list, ok)
			}
		}
	}
}

func TestPromise22NoTables(t *testing.T) {
	for _, s := range samples {
		code := append(sameBytes(2, s.at), s.bytes...)
		if len(code) <= 2000 && s.ins.Op != impl.OpTable {
			checkNoTable(t, impl.Image{Code: code}, s.at)
		}
	}
	m := imageOf("table r1 1 @t; @t:; word 0")
	for _, at := range append([]int{1, 2, 3, 4, 5, 6, 7}, noPlaces...) {
		checkNoTable(t, m, at)
	}
	// What would be a table instruction, but has too few places, or too many, or ends behind the code.
	for _, code := range [][]int{{112, 0, 0, 0}, {112, 9, 0, 0}, {112, 1, 208, 7}, {112, 1, 0}, {112, 1}, {112}} {
		checkNoTable(t, impl.Image{Code: code}, 0)
	}
}

// Promise 23: at each place that is reached stands an instruction, and the first one is reached, if one stands there.

func TestPromise23InstructionsAreReached(t *testing.T) {
	for _, m := range chartedImages() {
		list := impl.FollowOf(m)
		for k, at := range list {
			if _, ok := impl.InsAt(m.Code, at); !ok || k > 0 && list[k-1] >= at {
				t.Errorf("FollowOf(%v) = %v", brief(m.Code), brief(list))
			}
		}
		_, ok := impl.InsAt(m.Code, m.Entry)
		if slices.Contains(list, m.Entry) != ok || !ok && (len(list) != 0 || impl.Sound(m)) {
			t.Errorf("FollowOf(%v), from %d on, = %v", brief(m.Code), m.Entry, brief(list))
		}
	}
}

func TestPromise23WhereAllKindsLead(t *testing.T) {
	for _, s := range samples {
		code := append(sameBytes(2, s.at), s.bytes...)
		behind := len(code)
		if behind > 1990 {
			continue
		}
		code = append(code, sameBytes(0, 2000-behind)...)
		got := checkCharted(t, impl.Image{Code: code, Entry: s.at})
		follows := slices.Contains([]int{impl.OpHalt, impl.OpRet, impl.OpJump}, s.ins.Op)
		if slices.Contains(got.follow, behind) == follows {
			t.Errorf("what follows %q is reached: %t", s.text, follows)
		}
		leads := slices.Contains([]int{impl.OpJump, impl.OpIf, impl.OpCall}, s.ins.Op)
		if leads && !slices.Contains(got.follow, s.ins.N) {
			t.Errorf("where %q leads is not reached", s.text)
		}
	}
}

// mayLeave reports whether a run may come to places that are not reached: to what was pushed, by a return, or by a table that is not all in the code.
func mayLeave(m impl.Image, places []int) bool {
	return slices.ContainsFunc(places, func(at int) bool {
		i, _ := stands(m.Code, at)
		_, whole := wantTable(m.Code, i)
		return i.Op == impl.OpRet || i.Op == impl.OpTable && !whole
	})
}

func TestPromise23RunsComeToPlacesThatAreReached(t *testing.T) {
	l := &lot{state: 24}
	checked := 0
	for _, m := range chartedImages() {
		list := impl.FollowOf(m)
		if mayLeave(m, list) {
			continue
		}
		for _, at := range impl.RunPlaces(m, l.words(), 300) {
			checked++
			if !slices.Contains(list, at) {
				t.Errorf("a run of %v comes to %d, but reached is %v", brief(m.Code), at, brief(list))
			}
		}
	}
	if checked < 3000 {
		t.Errorf("just %d places", checked)
	}
}

// chainOf is code of jumps from the last one to the first, so that the places are reached from behind.
func chainOf(count int) []int {
	code := []int{0}
	for k := range count {
		to := max(0, 3*k-2)
		code = append(code, 88, to%256, to/256)
	}
	return code
}

func TestPromise23TheLongestWays(t *testing.T) {
	nops := impl.Image{Code: append(sameBytes(2, 1999), 0)}
	if list := impl.FollowOf(nops); !slices.Equal(list, upTo(2000)) || !impl.Sound(nops) {
		t.Errorf("%d places are reached", len(list))
	}
	nops.Code[1999] = 2
	if list := impl.FollowOf(nops); !slices.Equal(list, upTo(2000)) || impl.Sound(nops) {
		t.Errorf("%d places are reached", len(list))
	}
	code := chainOf(666)
	chain := impl.Image{Code: code, Entry: len(code) - 3}
	got := chartedOf(chain)
	if len(got.follow) != 667 || !got.sound || len(got.pairs) != 0 || got.letters != "i"+strings.Repeat("i--", 666) {
		t.Errorf("%d places of %d bytes are reached", len(got.follow), len(code))
	}
	checkCharted(t, impl.Image{Code: sameBytes(112, 2000)})
	checkCharted(t, impl.Image{Code: sameBytes(96, 2000)})
	checkCharted(t, impl.Image{Code: sameBytes(82, 2000), Entry: 1000})
	checkCharted(t, impl.Image{Code: sameBytes(128, 2000)})
}

func TestSoundOfRuns(t *testing.T) {
	l := &lot{state: 25}
	checked := 0
	for _, m := range chartedImages() {
		list := impl.FollowOf(m)
		takes := slices.ContainsFunc(list, func(at int) bool {
			i, _ := stands(m.Code, at)
			return i.Op == impl.OpRet || i.Op == impl.OpPop || between(i.Op, impl.OpLocal, impl.OpKeep) || i.Op == impl.OpDrop
		})
		if !impl.Sound(m) || takes {
			continue
		}
		checked++
		// Without words taken of the stack nothing else may go wrong.
		if r := impl.RunImage(m, l.words(), 4000); r.End == impl.EndWrong {
			t.Errorf("%v is sound, but goes wrong", brief(m.Code))
		}
	}
	if checked < 100 {
		t.Errorf("just %d sound images", checked)
	}
}

// Promise 25: what overlaps is within the bytes.

func TestPromise25Values(t *testing.T) {
	for _, f := range someFlows() {
		if list := impl.OverlapsOf(f.image()); !slices.Equal(list, f.pairs) {
			t.Errorf("OverlapsOf %q = %v, not %v", f.program, list, f.pairs)
		}
	}
}

func TestPromise25WithinTheBytes(t *testing.T) {
	for _, m := range chartedImages() {
		follow := impl.FollowOf(m)
		list := impl.OverlapsOf(m)
		for k, p := range list {
			i, _ := impl.InsAt(m.Code, p.A)
			if !between(p.B-p.A, 1, impl.InsLong(i)-1) || !slices.Contains(follow, p.A) || !slices.Contains(follow, p.B) {
				t.Errorf("OverlapsOf(%v) has %v", brief(m.Code), p)
			}
			if k > 0 && (list[k-1].A > p.A || list[k-1].A == p.A && list[k-1].B >= p.B) {
				t.Errorf("OverlapsOf(%v) = %v is not in order", brief(m.Code), brief(list))
			}
		}
		// None is missed: what is reached within the bytes of another one is in a pair with it.
		for _, a := range follow {
			i, _ := impl.InsAt(m.Code, a)
			for b := a + 1; b < a+impl.InsLong(i); b++ {
				if slices.Contains(follow, b) != slices.Contains(list, impl.Pair{A: a, B: b}) {
					t.Errorf("OverlapsOf(%v) = %v, but reached is %v", brief(m.Code), brief(list), brief(follow))
				}
			}
		}
	}
}

// Promise 26: the map tells as many instructions as are reached.

func TestPromise26Values(t *testing.T) {
	for _, f := range someFlows() {
		if letters := impl.CodeMap(f.image()); letters != f.letters {
			t.Errorf("CodeMap of %q = %q, not %q", f.program, letters, f.letters)
		}
	}
}

func TestPromise26ALetterForEachByte(t *testing.T) {
	for _, m := range chartedImages() {
		letters := impl.CodeMap(m)
		if len(letters) != len(m.Code) || strings.Trim(letters, "i-t.") != "" {
			t.Errorf("CodeMap(%v) = %q", brief(m.Code), letters)
			continue
		}
		list := impl.FollowOf(m)
		for at := range m.Code {
			if (letters[at] == 'i') != slices.Contains(list, at) {
				t.Errorf("CodeMap(%v) = %q, but reached is %v", brief(m.Code), letters, brief(list))
			}
		}
		if strings.Count(letters, "i") != len(list) {
			t.Errorf("CodeMap(%v) = %q", brief(m.Code), letters)
		}
	}
}

func TestPromise26TheLongestCode(t *testing.T) {
	code := sameBytes(255, 2000)
	copy(code, []int{112, 8, 200, 7, 0})
	if letters := impl.CodeMap(impl.Image{Code: code}); letters != "i---i"+strings.Repeat(".", 1987)+"tttttttt" {
		t.Errorf("CodeMap = %q", letters)
	}
}

// What is told of what is no image is nothing.

// spoiltImages has what is no image, each changed in one part alone from an image of 7 bytes that imageOf made.
func spoiltImages(base impl.Image) []impl.Image {
	changes := []func(m *impl.Image){
		func(m *impl.Image) { m.Entry = -1 },
		func(m *impl.Image) { m.Entry = len(m.Code) },
		func(m *impl.Image) { m.Room = 65 },
		func(m *impl.Image) { m.Room = -1 },
		func(m *impl.Image) { m.Room = 3 },
		func(m *impl.Image) { m.Data[0] = 256 },
		func(m *impl.Image) { m.Code[6] = 256 },
		func(m *impl.Image) { m.Code = append(m.Code, -1) },
		func(m *impl.Image) { m.Code = append(m.Code, zeros(2000)...) },
		func(m *impl.Image) { m.Names = []impl.Name{{Text: "A"}} },
		func(m *impl.Image) { m.Names = []impl.Name{{Text: "a", At: 7}} },
	}
	var list []impl.Image
	for _, change := range changes {
		m := copied(base)
		change(&m)
		list = append(list, m)
	}
	return list
}

func TestNothingIsToldOfNoImages(t *testing.T) {
	nothing := charted{}
	for k, m := range badImages() {
		if got := chartedOf(m); !sameCharted(got, nothing) {
			t.Errorf("of %d is told %v", k, got)
		}
		for _, at := range append([]int{0, 1, 7, 8}, noPlaces...) {
			checkNoTable(t, m, at)
		}
	}
	// The code alone would have a table, and be sound.
	base := imageOf("table r0 1 @t; halt; @t:; word 4")
	if !impl.Sound(base) {
		t.Error("the image is not sound")
	}
	for _, m := range spoiltImages(base) {
		if got := chartedOf(m); !sameCharted(got, nothing) {
			t.Errorf("of %v is told %v", m, got)
		}
		checkNoTable(t, m, 0)
	}
}

// What is returned is new, and what is told stays.

func spoilLines(list []impl.Line) {
	for k := range list[:cap(list)] {
		list[:cap(list)][k] = impl.Line{At: 77777, Byte: 77777}
	}
}

func spoilPairs(list []impl.Pair) {
	for k := range list[:cap(list)] {
		list[:cap(list)][k] = impl.Pair{A: 77777, B: 77777}
	}
}

func TestSweepSharesNothing(t *testing.T) {
	for _, kept := range someCodes()[:400] {
		code := slices.Clone(kept)
		want := wantSweep(kept)
		first, second := impl.SweepOf(code), impl.SweepOf(code)
		spoilLines(first)
		if !slices.Equal(code, kept) || !slices.Equal(second, want) || !slices.Equal(impl.SweepOf(code), want) {
			t.Errorf("SweepOf(%v) shares memory", brief(kept))
		}
		spoil(code)
		if !slices.Equal(second, want) {
			t.Errorf("SweepOf(%v) shares memory with the code", brief(kept))
		}
	}
}

func TestSweepBytesShareNothing(t *testing.T) {
	for _, want := range someCodes()[:400] {
		kept := wantSweep(want)
		list := slices.Clone(kept)
		first, _ := impl.SweepBytes(list)
		second, _ := impl.SweepBytes(list)
		spoil(first)
		third, _ := impl.SweepBytes(list)
		spoilLines(list)
		if !slices.Equal(second, want) || !slices.Equal(third, want) {
			t.Errorf("SweepBytes of the listing of %v shares memory", brief(want))
		}
	}
}

// sharingImages has images with and without places that are reached, tables and pairs.
func sharingImages() []impl.Image {
	list := goodImages()
	for _, f := range someFlows() {
		list = append(list, f.image())
	}
	return list
}

func TestWhatIsToldOfImagesSharesNothing(t *testing.T) {
	for k, kept := range sharingImages() {
		m := copied(kept)
		want := wantCharted(kept)
		first, second := chartedOf(m), chartedOf(m)
		spoil(first.follow)
		spoilPairs(first.pairs)
		if !alike(m, kept) {
			t.Errorf("what is told of image %d shares memory with it", k)
		}
		third := chartedOf(m)
		spoil(m.Code)
		if !sameCharted(second, want) || !sameCharted(third, want) {
			t.Errorf("what is told of image %d shares memory", k)
		}
	}
}

func TestTablesShareNothing(t *testing.T) {
	for k, kept := range sharingImages() {
		for at := range kept.Code {
			i, _ := stands(kept.Code, at)
			want, whole := wantTable(kept.Code, i)
			if i.Op != impl.OpTable || !whole {
				continue
			}
			m := copied(kept)
			first, _ := impl.TableOf(m, at)
			second, _ := impl.TableOf(m, at)
			spoil(first)
			if !alike(m, kept) {
				t.Errorf("the table at %d of image %d shares memory with it", at, k)
			}
			third, _ := impl.TableOf(m, at)
			spoil(m.Code)
			if !slices.Equal(second, want) || !slices.Equal(third, want) {
				t.Errorf("the table at %d of image %d shares memory", at, k)
			}
		}
	}
}

func TestListingsChangeNothing(t *testing.T) {
	for _, code := range someCodes() {
		guard := append(slices.Clone(code), 11111)
		impl.SweepOf(guard[:len(code)])
		impl.SweepOf(guard)
		if !slices.Equal(guard, append(slices.Clone(code), 11111)) {
			t.Errorf("SweepOf changed %v", brief(code))
		}
		lines := append(wantSweep(code), impl.Line{At: 11111})
		kept := slices.Clone(lines)
		impl.SweepBytes(lines[:len(lines)-1])
		impl.SweepBytes(lines)
		if !slices.Equal(lines, kept) {
			t.Errorf("SweepBytes changed the listing of %v", brief(code))
		}
	}
}

func TestWhatIsToldOfImagesChangesNothing(t *testing.T) {
	for k, m := range slices.Concat(sharingImages(), badImages()) {
		g := guarded(m)
		first := chartedOf(g)
		if second := chartedOf(g); !sameCharted(first, second) {
			t.Errorf("image %d is told in different ways", k)
		}
		for at := -1; at <= min(len(m.Code), 50); at++ {
			impl.TableOf(g, at)
		}
		if !alike(g, m) || !isGuarded(g) {
			t.Errorf("image %d was changed", k)
		}
	}
}
