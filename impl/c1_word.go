package impl

// MaxWord is the greatest word.
const MaxWord = 65535

// AluAdd adds.
const AluAdd = 0

// AluSub subtracts.
const AluSub = 1

// AluMul multiplies.
const AluMul = 2

// AluAnd takes the bits of both.
const AluAnd = 3

// AluOr takes the bits of either.
const AluOr = 4

// AluXor takes the bits of just one.
const AluXor = 5

// CondEqual holds for equal words.
const CondEqual = 0

// CondOther holds for words that are not equal.
const CondOther = 1

// CondLess holds if the first word is less, with signs.
const CondLess = 2

// CondMost holds if it is not.
const CondMost = 3

// CondLow holds if the first word is less, without signs.
const CondLow = 4

// CondHigh holds if it is not.
const CondHigh = 5

// Flags is what a comparison of two words tells: whether they are equal, and whether the first one is less, with and without signs.
type Flags struct {
	Equal bool
	Less  bool
	Low   bool
}

// firstBelow is the first word that counts as less than 0 with a sign.
const firstBelow = 32768

// lowByte has the bits of the low byte of a word.
const lowByte = 255

// wordOperation may leave the range of words: AluDo alone brings what it makes back.
type wordOperation func(a int, b int) int

// wordOperations is built by a function because the package level has no tables of functions.
func wordOperations() [6]wordOperation {
	return [6]wordOperation{
		AluAdd: func(a int, b int) int { return a + b },
		AluSub: func(a int, b int) int { return a - b },
		AluMul: func(a int, b int) int { return a * b },
		AluAnd: func(a int, b int) int { return a & b },
		AluOr:  func(a int, b int) int { return a | b },
		AluXor: func(a int, b int) int { return a ^ b },
	}
}

func isWord(n int) bool {
	return 0 <= n && n <= MaxWord
}

// every reports whether all items of a list, of whatever type, are as a function tells; all of none are.
func every[T any](list []T, is func(item T) bool) bool {
	for _, item := range list {
		if !is(item) {
			return false
		}
	}
	return true
}

// mapped returns what a function makes of each item of a list, in order; nil of none.
func mapped[T any, U any](list []T, of func(item T) U) []U {
	var made []U
	for _, item := range list {
		made = append(made, of(item))
	}
	return made
}

func areWords(list []int) bool {
	return every(list, isWord)
}

// WordOf returns the word that a number is modulo 65536.
func WordOf(n int) int {
	// Unlike the remainder, the mask is never below 0 for numbers below 0.
	return n & MaxWord
}

// SignedOf returns what a word is with a sign: 65536 less from 32768 on; 0 for numbers that are no words.
func SignedOf(n int) int {
	if !isWord(n) {
		return 0
	}
	if n >= firstBelow {
		return n - (MaxWord + 1)
	}
	return n
}

// LowPut returns the first word with the low byte of the second one; -1 for numbers that are no words.
func LowPut(a int, b int) int {
	if !isWord(a) || !isWord(b) {
		return -1
	}
	return a&^lowByte | b&lowByte
}

// AluDo returns what an operation (AluAdd 0, AluSub 1, AluMul 2, AluAnd 3, AluOr 4, AluXor 5) makes of two words, as a word; -1 for others.
func AluDo(op int, a int, b int) int {
	operations := wordOperations()
	if op < 0 || op >= len(operations) || !isWord(a) || !isWord(b) {
		return -1
	}
	return WordOf(operations[op](a, b))
}

// FlagsOf returns what a comparison of two words tells; the zero value for numbers that are no words.
func FlagsOf(a int, b int) Flags {
	if !isWord(a) || !isWord(b) {
		return Flags{}
	}
	return Flags{Equal: a == b, Less: SignedOf(a) < SignedOf(b), Low: a < b}
}

// CondHolds reports whether a condition (CondEqual 0 to CondHigh 5) holds with flags: Equal or not, Less or not, Low or not; false for others.
func CondHolds(cond int, f Flags) bool {
	switch cond {
	case CondEqual:
		return f.Equal
	case CondOther:
		return !f.Equal
	case CondLess:
		return f.Less
	case CondMost:
		return !f.Less
	case CondLow:
		return f.Low
	case CondHigh:
		return !f.Low
	}
	return false
}
