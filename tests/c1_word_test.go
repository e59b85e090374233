package tests

import (
	"math"
	"testing"

	"loop.example/liftedcode/impl"
)

// noWords stand on either side of the range of words, next to it and far from it.
var noWords = []int{math.MinInt, -65537, -65536, -65535, -32769, -32768, -2, -1, 65536, 65537, 98304, 131071, 1 << 32, math.MaxInt - 65535, math.MaxInt}

// edgeWords stand at the ends of ranges: of words, of low bytes, and of words that count as less than 0.
var edgeWords = []int{0, 1, 2, 127, 128, 254, 255, 256, 257, 4660, 21845, 32766, 32767, 32768, 32769, 43690, 43981, 65279, 65280, 65281, 65534, 65535}

var noOperations = []int{math.MinInt, -65536, -6, -1, 6, 7, 255, 65536, math.MaxInt}

var noConditions = []int{math.MinInt, -65536, -6, -1, 6, 7, 9, 255, 65536, math.MaxInt}

func allFlags() []impl.Flags {
	var list []impl.Flags
	for i := range 8 {
		list = append(list, impl.Flags{Equal: i&1 != 0, Less: i&2 != 0, Low: i&4 != 0})
	}
	return list
}

// somePairs has all pairs of edgeWords, and pairs that are spread over all words.
func somePairs() [][2]int {
	var list [][2]int
	for _, a := range edgeWords {
		for _, b := range edgeWords {
			list = append(list, [2]int{a, b})
		}
	}
	for i := range 20000 {
		list = append(list, [2]int{i * 40503 % 65536, i * i * 17 % 65536})
	}
	return list
}

// eachNoPair calls check with all pairs of which one number at least is no word.
func eachNoPair(check func(a int, b int)) {
	for _, n := range noWords {
		for _, w := range edgeWords {
			check(n, w)
			check(w, n)
		}
		for _, other := range noWords {
			check(n, other)
		}
	}
}

func TestNumbersOfWords(t *testing.T) {
	alu := []int{impl.AluAdd, impl.AluSub, impl.AluMul, impl.AluAnd, impl.AluOr, impl.AluXor}
	for i, n := range alu {
		if n != i {
			t.Errorf("operation %d has the number %d", i, n)
		}
	}
	conds := []int{impl.CondEqual, impl.CondOther, impl.CondLess, impl.CondMost, impl.CondLow, impl.CondHigh}
	for i, n := range conds {
		if n != i {
			t.Errorf("condition %d has the number %d", i, n)
		}
	}
	if impl.MaxWord != 65535 {
		t.Errorf("MaxWord = %d", impl.MaxWord)
	}
}

// Promise 1: a word is the number but for multiples of 65536.

func TestPromise1Values(t *testing.T) {
	cases := [][2]int{{0, 0}, {1, 1}, {65535, 65535}, {65536, 0}, {65537, 1}, {-1, 65535}, {-65535, 1}, {-65536, 0}, {-65537, 65535}, {-32768, 32768}, {131071, 65535}, {math.MinInt, 0}, {math.MinInt + 1, 1}, {math.MaxInt, 65535}}
	for _, c := range cases {
		if got := impl.WordOf(c[0]); got != c[1] {
			t.Errorf("WordOf(%d) = %d, not %d", c[0], got, c[1])
		}
	}
}

func TestPromise1ButForMultiples(t *testing.T) {
	for n := -200000; n <= 200000; n++ {
		w := impl.WordOf(n)
		if w < 0 || w > impl.MaxWord || (n-w)%65536 != 0 {
			t.Fatalf("WordOf(%d) = %d", n, w)
		}
		if impl.WordOf(n+65536) != w || impl.WordOf(n-65536) != w {
			t.Fatalf("65536 more or less than %d is another word", n)
		}
		if impl.WordOf(impl.SignedOf(w)) != w {
			t.Fatalf("SignedOf(%d) and back is another word", w)
		}
	}
}

// Promise 2: with a sign or without it is the same word.

func TestPromise2Values(t *testing.T) {
	cases := [][2]int{{0, 0}, {1, 1}, {32767, 32767}, {32768, -32768}, {32769, -32767}, {65534, -2}, {65535, -1}}
	for _, c := range cases {
		if got := impl.SignedOf(c[0]); got != c[1] {
			t.Errorf("SignedOf(%d) = %d, not %d", c[0], got, c[1])
		}
	}
}

func TestPromise2AllWords(t *testing.T) {
	for w := 0; w <= impl.MaxWord; w++ {
		s := impl.SignedOf(w)
		if impl.WordOf(s) != w || s < -32768 || s > 32767 || s != int(int16(uint16(w))) {
			t.Fatalf("SignedOf(%d) = %d", w, s)
		}
	}
}

func TestPromise2NoWords(t *testing.T) {
	for _, n := range noWords {
		if got := impl.SignedOf(n); got != 0 {
			t.Errorf("SignedOf(%d) = %d, not 0", n, got)
		}
	}
}

// Promise 3: the low byte comes from the second word alone.

func TestPromise3Values(t *testing.T) {
	cases := [][3]int{{4660, 43981, 4813}, {0, 65535, 255}, {65535, 0, 65280}, {65535, 65535, 65535}, {0, 256, 0}, {255, 256, 0}, {256, 255, 511}}
	for _, c := range cases {
		if got := impl.LowPut(c[0], c[1]); got != c[2] {
			t.Errorf("LowPut(%d, %d) = %d, not %d", c[0], c[1], got, c[2])
		}
	}
}

func TestPromise3Bytes(t *testing.T) {
	for _, p := range somePairs() {
		a, b := p[0], p[1]
		got := impl.LowPut(a, b)
		if got%256 != b%256 || got/256 != a/256 {
			t.Fatalf("LowPut(%d, %d) = %d", a, b, got)
		}
		if impl.LowPut(got, b) != got {
			t.Fatalf("the low byte of %d put again into %d is another word", b, got)
		}
		if impl.LowPut(impl.WordOf(a^37), b) != got || impl.LowPut(a, impl.WordOf(b+256)) != got {
			t.Fatalf("LowPut(%d, %d) hangs on more than a high and a low byte", a, b)
		}
	}
}

func TestPromise3NoWords(t *testing.T) {
	eachNoPair(func(a int, b int) {
		if got := impl.LowPut(a, b); got != -1 {
			t.Errorf("LowPut(%d, %d) = %d, not -1", a, b, got)
		}
	})
}

// Promise 4: what is added may be taken away, and what was turned turned back.

func TestPromise4Values(t *testing.T) {
	cases := [][4]int{
		{impl.AluAdd, 65535, 1, 0}, {impl.AluAdd, 65535, 65535, 65534}, {impl.AluAdd, 32767, 1, 32768},
		{impl.AluSub, 3, 5, 65534}, {impl.AluSub, 0, 65535, 1}, {impl.AluSub, 5, 3, 2}, {impl.AluSub, 0, 1, 65535},
		{impl.AluMul, 256, 256, 0}, {impl.AluMul, 65535, 65535, 1}, {impl.AluMul, 300, 300, 24464}, {impl.AluMul, 6, 7, 42},
		{impl.AluAnd, 12, 10, 8}, {impl.AluOr, 12, 10, 14}, {impl.AluXor, 12, 10, 6},
		{impl.AluAnd, 65535, 32768, 32768}, {impl.AluOr, 32768, 32767, 65535}, {impl.AluXor, 65535, 65535, 0},
	}
	for _, c := range cases {
		if got := impl.AluDo(c[0], c[1], c[2]); got != c[3] {
			t.Errorf("AluDo(%d, %d, %d) = %d, not %d", c[0], c[1], c[2], got, c[3])
		}
	}
}

func TestPromise4SameAsSixteenBits(t *testing.T) {
	for _, p := range somePairs() {
		a, b := uint16(p[0]), uint16(p[1])
		for op, want := range []uint16{a + b, a - b, a * b, a & b, a | b, a ^ b} {
			if got := impl.AluDo(op, p[0], p[1]); got != int(want) {
				t.Fatalf("AluDo(%d, %d, %d) = %d, not %d", op, a, b, got, want)
			}
		}
	}
}

func TestPromise4Back(t *testing.T) {
	for _, p := range somePairs() {
		a, b := p[0], p[1]
		if impl.AluDo(impl.AluSub, impl.AluDo(impl.AluAdd, a, b), b) != a {
			t.Fatalf("%d with %d added and taken away is another word", a, b)
		}
		if impl.AluDo(impl.AluXor, impl.AluDo(impl.AluXor, a, b), b) != a {
			t.Fatalf("%d turned twice with %d is another word", a, b)
		}
		for _, op := range []int{impl.AluAdd, impl.AluMul, impl.AluAnd, impl.AluOr, impl.AluXor} {
			if impl.AluDo(op, a, b) != impl.AluDo(op, b, a) {
				t.Fatalf("operation %d of %d and %d is not the same the other way round", op, a, b)
			}
		}
	}
}

func TestPromise4NoOperationsAndNoWords(t *testing.T) {
	for _, op := range noOperations {
		for _, w := range edgeWords {
			if got := impl.AluDo(op, w, 1); got != -1 {
				t.Errorf("AluDo(%d, %d, 1) = %d, not -1", op, w, got)
			}
		}
	}
	eachNoPair(func(a int, b int) {
		for op := impl.AluAdd; op <= impl.AluXor; op++ {
			if got := impl.AluDo(op, a, b); got != -1 {
				t.Errorf("AluDo(%d, %d, %d) = %d, not -1", op, a, b, got)
			}
		}
	})
}

// Promise 5: words are equal, or just one of both is less.

func TestPromise5Values(t *testing.T) {
	cases := []struct {
		a, b int
		want impl.Flags
	}{
		{0, 0, impl.Flags{Equal: true}},
		{65535, 65535, impl.Flags{Equal: true}},
		{1, 2, impl.Flags{Less: true, Low: true}},
		{2, 1, impl.Flags{}},
		{65535, 1, impl.Flags{Less: true}},
		{1, 65535, impl.Flags{Low: true}},
		{32767, 32768, impl.Flags{Low: true}},
		{32768, 32767, impl.Flags{Less: true}},
		{32768, 65535, impl.Flags{Less: true, Low: true}},
		{0, 32768, impl.Flags{Low: true}},
		{32768, 0, impl.Flags{Less: true}},
	}
	for _, c := range cases {
		if got := impl.FlagsOf(c.a, c.b); got != c.want {
			t.Errorf("FlagsOf(%d, %d) = %v, not %v", c.a, c.b, got, c.want)
		}
	}
}

// just reports whether exactly one of three is so.
func just(a bool, b bool, c bool) bool {
	n := 0
	for _, is := range []bool{a, b, c} {
		if is {
			n++
		}
	}
	return n == 1
}

func TestPromise5JustOne(t *testing.T) {
	for _, p := range somePairs() {
		a, b := p[0], p[1]
		f, g := impl.FlagsOf(a, b), impl.FlagsOf(b, a)
		want := impl.Flags{Equal: a == b, Less: int16(uint16(a)) < int16(uint16(b)), Low: uint16(a) < uint16(b)}
		if f != want {
			t.Fatalf("FlagsOf(%d, %d) = %v, not %v", a, b, f, want)
		}
		if f.Equal != g.Equal || !just(f.Equal, f.Less, g.Less) || !just(f.Equal, f.Low, g.Low) {
			t.Fatalf("%d and %d are compared as %v, and the other way round as %v", a, b, f, g)
		}
	}
}

func TestPromise5NoWords(t *testing.T) {
	eachNoPair(func(a int, b int) {
		if got := impl.FlagsOf(a, b); got != (impl.Flags{}) {
			t.Errorf("FlagsOf(%d, %d) = %v, not the zero value", a, b, got)
		}
	})
}

// Promise 6: just one of a condition and its contrary holds.

func TestPromise6JustOne(t *testing.T) {
	for _, f := range allFlags() {
		for i, want := range []bool{f.Equal, f.Less, f.Low} {
			if got := impl.CondHolds(2*i, f); got != want {
				t.Errorf("CondHolds(%d, %v) = %t", 2*i, f, got)
			}
			if got := impl.CondHolds(2*i+1, f); got == want {
				t.Errorf("CondHolds(%d, %v) = %t", 2*i+1, f, got)
			}
		}
	}
}

func TestPromise6OfWords(t *testing.T) {
	for _, p := range somePairs() {
		a, b := p[0], p[1]
		signedA, signedB := int16(uint16(a)), int16(uint16(b))
		f := impl.FlagsOf(a, b)
		for cond, want := range []bool{a == b, a != b, signedA < signedB, signedA >= signedB, a < b, a >= b} {
			if got := impl.CondHolds(cond, f); got != want {
				t.Fatalf("condition %d of %d and %d: %t", cond, a, b, got)
			}
		}
	}
}

func TestPromise6NoConditions(t *testing.T) {
	for _, cond := range noConditions {
		for _, f := range allFlags() {
			if impl.CondHolds(cond, f) {
				t.Errorf("CondHolds(%d, %v) = true", cond, f)
			}
		}
	}
}
