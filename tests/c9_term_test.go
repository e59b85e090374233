package tests

import (
	"fmt"
	"math"
	"regexp"
	"slices"
	"strconv"
	"strings"
	"testing"
	"unicode/utf8"

	"loop.example/liftedcode/impl"
)

// The kinds are told by their numbers, so that other ones would not go unseen.

func num(n int) impl.Term {
	return impl.Term{Kind: 0, Num: n}
}

func named(text string) impl.Term {
	return impl.Term{Kind: 1, Text: text}
}

func bin(a impl.Term, op string, b impl.Term) impl.Term {
	return impl.Term{Kind: 2, Text: op, Kids: []impl.Term{a, b}}
}

func not(a impl.Term) impl.Term {
	return impl.Term{Kind: 3, Kids: []impl.Term{a}}
}

func wordAt(a impl.Term) impl.Term {
	return impl.Term{Kind: 4, Kids: []impl.Term{a}}
}

func byteAt(a impl.Term) impl.Term {
	return impl.Term{Kind: 5, Kids: []impl.Term{a}}
}

// opTexts has the operators in the order of chapter 9.
var opTexts = strings.Fields("+ - * & | ^ == < <<")

// keywords have the form of names, but are none.
var keywords = strings.Fields("word byte out in if else loop block leave again back halt proc")

// shownTerm is a term with its text and its variables, written out by hand from chapter 9.
type shownTerm struct {
	text string
	term impl.Term
	vars string
}

func shownTerms() []shownTerm {
	a, b, c := named("a"), named("b"), named("c")
	return []shownTerm{
		{"0", num(0), ""},
		{"7", num(7), ""},
		{"10", num(10), ""},
		{"65535", num(65535), ""},
		{"a", a, "a"},
		{"z9", named("z9"), "z9"},
		{"abcdefgh", named("abcdefgh"), "abcdefgh"},
		{"a1234567", named("a1234567"), "a1234567"},
		// What begins as a word that is no name may be one.
		{"words", named("words"), "words"},
		{"word1", named("word1"), "word1"},
		{"byte2", named("byte2"), "byte2"},
		{"wor", named("wor"), "wor"},
		{"i", named("i"), "i"},
		{"inn", named("inn"), "inn"},
		{"proc9", named("proc9"), "proc9"},
		{"xword", named("xword"), "xword"},
		{"go", named("go"), "go"},
		{"(a + b)", bin(a, "+", b), "a b"},
		{"(b - a)", bin(b, "-", a), "b a"},
		{"(1 * a)", bin(num(1), "*", a), "a"},
		{"(a & 255)", bin(a, "&", num(255)), "a"},
		{"(a | a)", bin(a, "|", a), "a"},
		{"(0 ^ 0)", bin(num(0), "^", num(0)), ""},
		{"(a == b)", bin(a, "==", b), "a b"},
		{"(a < b)", bin(a, "<", b), "a b"},
		{"(a << b)", bin(a, "<<", b), "a b"},
		{"!a", not(a), "a"},
		{"!!0", not(not(num(0))), ""},
		{"word[a]", wordAt(a), "a"},
		{"byte[65535]", byteAt(num(65535)), ""},
		{"(word[r0] + !x)", bin(wordAt(named("r0")), "+", not(named("x"))), "r0 x"},
		{"((a - b) - c)", bin(bin(a, "-", b), "-", c), "a b c"},
		{"(a - (b - c))", bin(a, "-", bin(b, "-", c)), "a b c"},
		{"((c - 1) * (b - c))", bin(bin(c, "-", num(1)), "*", bin(b, "-", c)), "c b"},
		{"!(a < b)", not(bin(a, "<", b)), "a b"},
		{"(!a << !b)", bin(not(a), "<<", not(b)), "a b"},
		{"word[(p + 2)]", wordAt(bin(named("p"), "+", num(2))), "p"},
		{"byte[word[byte[x]]]", byteAt(wordAt(byteAt(named("x")))), "x"},
		{"!word[!byte[!z]]", not(wordAt(not(byteAt(not(named("z")))))), "z"},
		{"(word[words] == byte[byte1])", bin(wordAt(named("words")), "==", byteAt(named("byte1"))), "words byte1"},
		{"((b + word[c]) & (a + (c | b)))", bin(bin(b, "+", wordAt(c)), "&", bin(a, "+", bin(c, "|", b))), "b c a"},
		{"((x1 << x2) ^ ((x2 < x1) ^ (x3 == x1)))", bin(bin(named("x1"), "<<", named("x2")), "^", bin(bin(named("x2"), "<", named("x1")), "^", bin(named("x3"), "==", named("x1")))), "x1 x2 x3"},
	}
}

// sized is a term of so many terms, as low as it can be.
func sized(count int) impl.Term {
	switch {
	case count == 1:
		return named("v")
	case count == 2:
		return not(named("v"))
	}
	half := (count - 1) / 2
	return bin(sized(half), "+", sized(count-1-half))
}

// tall is a term as high as is told, of as few terms as it can be, around another one.
func tall(high int, of func(a impl.Term) impl.Term, last impl.Term) impl.Term {
	if high == 1 {
		return last
	}
	return of(tall(high-1, of, last))
}

// leansLeft and leansRight make a term one higher on one side.
func leansLeft(a impl.Term) impl.Term {
	return bin(a, "-", num(1))
}

func leansRight(a impl.Term) impl.Term {
	return bin(num(1), "-", a)
}

// tallOnes are terms as high as is told, on all sides.
func tallOnes(high int, last impl.Term) []impl.Term {
	var list []impl.Term
	for _, of := range []func(a impl.Term) impl.Term{not, wordAt, byteAt, leansLeft, leansRight} {
		list = append(list, tall(high, of, last))
	}
	return list
}

// largestTerms are as large, or as high, as terms may be, or both.
func largestTerms() []impl.Term {
	list := append(tallOnes(14, num(0)), tallOnes(14, named("abcdefgh"))...)
	list = append(list, sized(59), sized(60), not(sized(59)), bin(sized(29), "<", sized(30)), bin(num(0), "+", sized(58)), bin(sized(58), "+", num(0)))
	// A tall one of 14 terms beside one of 45.
	return append(list, bin(tall(13, not, num(1)), "*", sized(46)), bin(sized(46), "*", tall(13, byteAt, named("x"))))
}

// tooLargeTerms are so in just one of both ways.
func tooLargeTerms() []impl.Term {
	list := append(tallOnes(15, num(0)), tallOnes(15, named("v"))...)
	list = append(list, tallOnes(16, num(0))...)
	list = append(list, sized(61), sized(62), sized(100), not(sized(60)), bin(sized(30), "<", sized(30)), bin(num(0), "+", sized(59)), bin(sized(59), "+", num(0)))
	return append(list, bin(tall(13, not, num(1)), "*", sized(47)), bin(tall(14, not, num(1)), "*", num(1)), bin(num(1), "*", tall(14, not, num(1))))
}

// term draws a term that is at most so high; large ones are seldom.
func (l *lot) term(high int) impl.Term {
	if high == 1 || l.next(6) == 0 {
		if l.next(2) == 0 {
			return num(edgeWords[l.next(len(edgeWords))])
		}
		return named([]string{"a", "b", "r0", "x9", "words", "abcdefgh"}[l.next(6)])
	}
	switch l.next(6) {
	case 0:
		return not(l.term(high - 1))
	case 1:
		return wordAt(l.term(high - 1))
	case 2:
		return byteAt(l.term(high - 1))
	}
	return bin(l.term(high-1), opTexts[l.next(len(opTexts))], l.term(high-1))
}

// drawnTerms are many terms of all kinds.
func drawnTerms(count int) []impl.Term {
	l := &lot{state: 9}
	var list []impl.Term
	for len(list) < count {
		if t := l.term(1 + l.next(8)); wantTerm(t) {
			list = append(list, t)
		}
	}
	return list
}

func goodTerms() []impl.Term {
	var list []impl.Term
	for _, s := range shownTerms() {
		list = append(list, s.term)
	}
	return append(list, largestTerms()...)
}

func someTerms() []impl.Term {
	return append(goodTerms(), drawnTerms(1500)...)
}

// noFreeNames are none by their form, or because they are words of programs.
func noFreeNames() []string {
	return append(slices.Clone(noNameTexts), keywords...)
}

var noOperators = []string{"", " ", "%", "/", "=", "!", "!=", "<=", ">", ">=", ">>", "<<<", "===", "&&", "||", "+ ", " +", "++", "+-", "a", "add", "word", "\x00", "(", "!="}

// badForms are no terms by one part of themselves alone.
func badForms() []impl.Term {
	a, b := named("a"), named("b")
	none, one, three := []impl.Term{}, []impl.Term{a}, []impl.Term{a, b, a}
	list := []impl.Term{
		{Kind: 0, Text: "a"}, {Kind: 0, Text: "0"}, {Kind: 0, Text: "+"}, {Kind: 0, Kids: one}, {Kind: 0, Num: 5, Kids: three},
		{Kind: 1}, {Kind: 1, Text: "a", Num: 1}, {Kind: 1, Text: "a", Num: -1}, {Kind: 1, Text: "a", Kids: one}, {Kind: 1, Text: "+"},
		{Kind: 2}, {Kind: 2, Text: "+"}, {Kind: 2, Text: "+", Kids: none}, {Kind: 2, Text: "+", Kids: one}, {Kind: 2, Text: "+", Kids: three},
		{Kind: 2, Text: "+", Num: 1, Kids: []impl.Term{a, b}}, {Kind: 2, Text: "-", Num: -1, Kids: []impl.Term{a, b}}, {Kind: 2, Kids: []impl.Term{a, b}},
		{Kind: 2, Text: "+", Kids: make([]impl.Term, 100000)}, {Kind: 0, Kids: make([]impl.Term, 100000)},
	}
	for kind := 3; kind <= 5; kind++ {
		list = append(list, impl.Term{Kind: kind}, impl.Term{Kind: kind, Kids: none}, impl.Term{Kind: kind, Kids: []impl.Term{a, b}}, impl.Term{Kind: kind, Kids: three})
		list = append(list, impl.Term{Kind: kind, Num: 1, Kids: one}, impl.Term{Kind: kind, Num: -1, Kids: one})
		for _, text := range []string{"a", "!", "word", "byte", "+"} {
			list = append(list, impl.Term{Kind: kind, Text: text, Kids: one})
		}
	}
	for _, kind := range []int{math.MinInt, -6, -1, 6, 7, 256, math.MaxInt} {
		list = append(list, impl.Term{Kind: kind}, impl.Term{Kind: kind, Text: "a"}, impl.Term{Kind: kind, Kids: one}, impl.Term{Kind: kind, Text: "+", Kids: []impl.Term{a, b}})
	}
	for _, n := range noWords {
		list = append(list, num(n))
	}
	for _, text := range noFreeNames() {
		list = append(list, named(text))
	}
	for _, text := range noOperators {
		list = append(list, bin(a, text, b))
	}
	return list
}

// putAt returns a term in which another one stands at a place, all places being counted from the term itself on, each ahead of its parts; and how many places there are.
func putAt(t impl.Term, place int, x impl.Term) (impl.Term, int) {
	if place == 0 {
		return x, 0
	}
	count := 1
	var kids []impl.Term
	for _, kid := range t.Kids {
		other, more := putAt(kid, place-count, x)
		if more == 0 {
			_, more = putAt(kid, -1, x)
		}
		kids = append(kids, other)
		count += more
	}
	t.Kids = kids
	return t, count
}

// badTerms has what is no term by one of its parts, wherever this stands, by how many terms it has, or by how high it is.
func badTerms() []impl.Term {
	list := append(badForms(), tooLargeTerms()...)
	for _, base := range []impl.Term{not(num(0)), bin(wordAt(named("b")), "*", byteAt(named("a"))), tall(14, not, num(0)), sized(60)} {
		_, places := putAt(base, -1, num(0))
		for place := 1; place < places; place++ {
			for _, bad := range []impl.Term{{Kind: -1}, {Kind: 6}, num(65536), named("in"), named("A"), {Kind: 0, Text: "a"}, bin(num(0), "%", num(0)), {Kind: 3}} {
				t, _ := putAt(base, place, bad)
				list = append(list, t)
			}
		}
	}
	return list
}

// endlessTerms have parts within themselves, or so many that nobody could look at all of them.
func endlessTerms() []impl.Term {
	one := make([]impl.Term, 1)
	one[0] = impl.Term{Kind: 3, Kids: one}
	two := make([]impl.Term, 2)
	two[0] = impl.Term{Kind: 2, Text: "+", Kids: two}
	two[1] = impl.Term{Kind: 2, Text: "-", Kids: two}
	far := make([]impl.Term, 2)
	far[0], far[1] = num(0), impl.Term{Kind: 2, Text: "*", Kids: far}
	doubled := num(1)
	for range 200 {
		doubled = bin(doubled, "^", doubled)
	}
	return []impl.Term{one[0], not(one[0]), two[0], two[1], far[1], doubled, tall(100000, not, num(0)), tall(100000, leansLeft, num(0))}
}

// wantFreeName tells from chapter 9 whether a text is a name.
func wantFreeName(text string) bool {
	return wantName(text) && !slices.Contains(keywords, text)
}

// wantForm tells from the table of chapter 9 whether a term has what its kind has; its parts are not looked at.
func wantForm(t impl.Term) bool {
	switch t.Kind {
	case 0:
		return between(t.Num, 0, 65535) && t.Text == "" && len(t.Kids) == 0
	case 1:
		return t.Num == 0 && wantFreeName(t.Text) && len(t.Kids) == 0
	case 2:
		return t.Num == 0 && slices.Contains(opTexts, t.Text) && len(t.Kids) == 2
	case 3, 4, 5:
		return t.Num == 0 && t.Text == "" && len(t.Kids) == 1
	}
	return false
}

// wantTerm tells from chapter 9 whether t is a term, from the highest part on down.
func wantTerm(t impl.Term) bool {
	count := 0
	level := []impl.Term{t}
	for high := 1; len(level) > 0; high++ {
		count += len(level)
		if high > 14 || count > 60 {
			return false
		}
		var below []impl.Term
		for _, t := range level {
			if !wantForm(t) {
				return false
			}
			below = append(below, t.Kids...)
		}
		level = below
	}
	return true
}

// wantText tells from the table of chapter 9 what the text of a term is.
func wantText(t impl.Term) string {
	switch t.Kind {
	case 0:
		return fmt.Sprint(t.Num)
	case 1:
		return t.Text
	case 2:
		return fmt.Sprintf("(%s %s %s)", wantText(t.Kids[0]), t.Text, wantText(t.Kids[1]))
	case 3:
		return "!" + wantText(t.Kids[0])
	case 4:
		return "word[" + wantText(t.Kids[0]) + "]"
	}
	return "byte[" + wantText(t.Kids[0]) + "]"
}

// In texts that are read a second time, a letter of these stands for a term that was found already.
const firstFound = '\uE000'

var (
	wordPattern  = regexp.MustCompile(`(?:word|byte)\[|[a-z0-9]+`)
	wholePattern = regexp.MustCompile(`^(?:0|[1-9][0-9]{0,4})$`)
	partsPattern = regexp.MustCompile(`(!)([\x{E000}-\x{F8FF}])|(word|byte)\[([\x{E000}-\x{F8FF}])\]|\(([\x{E000}-\x{F8FF}]) (\+|-|\*|&|\||\^|==|<|<<) ([\x{E000}-\x{F8FF}])\)`)
)

// found has the terms of a text that were found already.
type found struct {
	terms []impl.Term
}

func (f *found) keep(t impl.Term) string {
	f.terms = append(f.terms, t)
	return string(firstFound + rune(len(f.terms)-1))
}

func (f *found) term(letter string) impl.Term {
	r, _ := utf8.DecodeRuneInString(letter)
	return f.terms[r-firstFound]
}

// alone puts a letter in the place of a number or a name.
func (f *found) alone(word string) string {
	if n, _ := strconv.Atoi(word); wholePattern.MatchString(word) && n <= 65535 {
		return f.keep(num(n))
	}
	if wantFreeName(word) {
		return f.keep(named(word))
	}
	return word
}

// whole puts a letter in the place of letters and what stands around them.
func (f *found) whole(text string) string {
	parts := partsPattern.FindStringSubmatch(text)
	switch {
	case parts[1] == "!":
		return f.keep(not(f.term(parts[2])))
	case parts[3] == "word":
		return f.keep(wordAt(f.term(parts[4])))
	case parts[3] == "byte":
		return f.keep(byteAt(f.term(parts[4])))
	}
	return f.keep(bin(f.term(parts[5]), parts[6], f.term(parts[7])))
}

// wantReadTerm tells from chapter 9 which term a text is that of, from its shortest parts on.
func wantReadTerm(s string) (impl.Term, bool) {
	// None of the terms has more than 8 bytes of its own.
	isOther := func(r rune) bool {
		return !strings.ContainsRune("abcdefghijklmnopqrstuvwxyz0123456789()[]! +-*&|^=<", r)
	}
	if len(s) > 480 || strings.ContainsFunc(s, isOther) {
		return impl.Term{}, false
	}
	f := &found{}
	s = wordPattern.ReplaceAllStringFunc(s, f.alone)
	for was := ""; was != s; {
		was = s
		s = partsPattern.ReplaceAllStringFunc(s, f.whole)
	}
	if utf8.RuneCountInString(s) != 1 || len(f.terms) == 0 || strings.Trim(s, string(firstFound+rune(len(f.terms)-1))) != "" {
		return impl.Term{}, false
	}
	t := f.terms[len(f.terms)-1]
	if !wantTerm(t) {
		return impl.Term{}, false
	}
	return t, true
}

// wantVars tells the variables of a term from its text.
func wantVars(t impl.Term) []string {
	var list []string
	for _, word := range wordPattern.FindAllString(wantText(t), -1) {
		if wantFreeName(word) && !slices.Contains(list, word) {
			list = append(list, word)
		}
	}
	return list
}

// wantPut tells from the texts of terms what comes of it if one is put in the place of a variable of another one.
func wantPut(t impl.Term, name string, x impl.Term) (impl.Term, bool) {
	if !wantTerm(t) || !wantFreeName(name) || !wantTerm(x) {
		return impl.Term{}, false
	}
	return wantReadTerm(wordPattern.ReplaceAllStringFunc(wantText(t), func(word string) string {
		if word == name {
			return wantText(x)
		}
		return word
	}))
}

// scope is what terms are evaluated with.
type scope struct {
	vars []impl.Var
	mem  []int
}

// wantOf tells what an operator makes of two words.
func wantOf(op string, a uint16, b uint16) uint16 {
	whether := map[bool]uint16{true: 1}
	switch op {
	case "+":
		return a + b
	case "-":
		return a - b
	case "*":
		return a * b
	case "&":
		return a & b
	case "|":
		return a | b
	case "^":
		return a ^ b
	case "==":
		return whether[a == b]
	case "<":
		return whether[int16(a) < int16(b)]
	}
	return whether[a < b]
}

// wantWord tells the value of a term with words of 16 bits.
func (s scope) wantWord(t impl.Term) (uint16, bool) {
	var parts []uint16
	for _, kid := range t.Kids {
		word, ok := s.wantWord(kid)
		if !ok {
			return 0, false
		}
		parts = append(parts, word)
	}
	switch t.Kind {
	case 0:
		return uint16(t.Num), true
	case 1:
		for _, v := range slices.Backward(s.vars) {
			if v.Name == t.Text {
				return uint16(v.Num), true
			}
		}
		return 0, true
	case 2:
		return wantOf(t.Text, parts[0], parts[1]), true
	case 3:
		return wantOf("==", parts[0], 0), true
	}
	at := int(parts[0])
	if t.Kind == 5 && at < len(s.mem) {
		return uint16(s.mem[at]), true
	}
	if t.Kind == 4 && at+1 < len(s.mem) {
		return uint16(s.mem[at]) + uint16(s.mem[at+1])<<8, true
	}
	return 0, false
}

func (s scope) want(t impl.Term) (int, bool) {
	word, ok := s.wantWord(t)
	return int(word), ok
}

// scopes are some of all kinds, many of them with memory for all addresses that are asked for often.
func scopes() []scope {
	full := codeOf(64)
	var most []impl.Var
	for k := range 60 {
		most = append(most, impl.Var{Name: []string{"a", "b", "r0", "x9", "words", "abcdefgh"}[k%6], Num: k * 997 % 65536})
	}
	return []scope{
		{},
		{vars: []impl.Var{}, mem: []int{}},
		{mem: full},
		{mem: []int{200}},
		{mem: []int{1, 2}},
		{vars: []impl.Var{{Name: "a", Num: 1}, {Name: "b", Num: 65535}, {Name: "r0", Num: 62}}, mem: full},
		{vars: []impl.Var{{Name: "a", Num: 63}, {Name: "words", Num: 32768}, {Name: "a", Num: 7}, {Name: "a", Num: 3}}, mem: full[:9]},
		{vars: most, mem: full},
		{vars: []impl.Var{{Name: "x9", Num: 1}, {Name: "other", Num: 5}}},
	}
}

func alikeTerms(a impl.Term, b impl.Term) bool {
	return a.Kind == b.Kind && a.Num == b.Num && a.Text == b.Text && slices.EqualFunc(a.Kids, b.Kids, alikeTerms)
}

func isNoTerm(t impl.Term) bool {
	return t.Kind == 0 && t.Num == 0 && t.Text == "" && len(t.Kids) == 0
}

func copiedTerm(t impl.Term) impl.Term {
	var kids []impl.Term
	for _, kid := range t.Kids {
		kids = append(kids, copiedTerm(kid))
	}
	t.Kids = kids
	return t
}

// brieflyTerm is what is told of a term in a message, also of one that has no end.
func brieflyTerm(t impl.Term) string {
	if !wantTerm(t) {
		return fmt.Sprintf("no term of kind %d, with %d, %q and %d parts", t.Kind, t.Num, t.Text, len(t.Kids))
	}
	return wantText(t)
}

func TestNumbersOfTerms(t *testing.T) {
	kinds := []int{impl.TermNum, impl.TermVar, impl.TermBin, impl.TermNot, impl.TermWord, impl.TermByte}
	for k, kind := range kinds {
		if kind != k {
			t.Errorf("kind %d has the number %d", k, kind)
		}
	}
	if impl.MaxTerm != 60 || impl.MaxHigh != 14 || impl.MaxName != 8 || impl.MaxRoom != 64 {
		t.Errorf("limits %d, %d, %d, %d", impl.MaxTerm, impl.MaxHigh, impl.MaxName, impl.MaxRoom)
	}
}

func TestTermOkOfTerms(t *testing.T) {
	for _, x := range someTerms() {
		if !wantTerm(x) || !impl.TermOk(x) {
			t.Errorf("%s is told to be none", brieflyTerm(x))
		}
	}
	// The zero value is the number 0, and a list of no parts is none.
	if !impl.TermOk(impl.Term{}) || !impl.TermOk(impl.Term{Kind: 1, Text: "a", Kids: []impl.Term{}}) {
		t.Error("TermOk = false")
	}
}

func TestTermOkOfAllNumbers(t *testing.T) {
	for n := -300; n <= 66000; n++ {
		if impl.TermOk(num(n)) != between(n, 0, 65535) {
			t.Errorf("TermOk of the number %d", n)
		}
	}
}

func TestTermOkOfAllLetters(t *testing.T) {
	for b := range 256 {
		letter := string([]byte{byte(b)})
		for _, text := range []string{letter, letter + "a", "a" + letter, "a" + letter + "0", "0" + letter, "abcdefg" + letter, "abcdefgh" + letter} {
			if impl.TermOk(named(text)) != wantFreeName(text) {
				t.Errorf("TermOk of the name %q", text)
			}
		}
		for _, op := range []string{letter, letter + letter, "=" + letter, "<" + letter, letter + "<", "<<" + letter} {
			if impl.TermOk(bin(num(1), op, num(2))) != slices.Contains(opTexts, op) {
				t.Errorf("TermOk of the operator %q", op)
			}
		}
	}
}

func TestTermOkOfNamesNearWords(t *testing.T) {
	for _, word := range keywords {
		if impl.TermOk(named(word)) {
			t.Errorf("%s is a name", word)
		}
		for _, text := range []string{word + "0", word + "s", "a" + word, word[:len(word)-1], word[1:]} {
			if impl.TermOk(named(text)) != wantFreeName(text) {
				t.Errorf("TermOk of the name %q", text)
			}
		}
	}
	// Words of other chapters are names.
	for _, text := range strings.Fields("room start begin main way all set f0 k7 go e l b r0 s39 spin nop ret") {
		if !impl.TermOk(named(text)) {
			t.Errorf("%s is no name", text)
		}
	}
}

func TestTermOkOfAllSizes(t *testing.T) {
	for count := 1; count <= 130; count++ {
		if impl.TermOk(sized(count)) != (count <= 60) {
			t.Errorf("TermOk of %d terms", count)
		}
	}
	for high := 1; high <= 40; high++ {
		for k, x := range append(tallOnes(high, num(0)), tallOnes(high, named("v"))...) {
			// Of those of which each part has another one beside it there are more than 60 as late as from 31 on.
			if impl.TermOk(x) != (high <= 14) {
				t.Errorf("TermOk of %d, which is %d high", k, high)
			}
		}
	}
}

func TestNoTerms(t *testing.T) {
	for k, x := range append(badTerms(), endlessTerms()...) {
		if wantTerm(x) || impl.TermOk(x) {
			t.Errorf("%d is a term: %s", k, brieflyTerm(x))
		}
		if text := impl.TermText(x); text != "" {
			t.Errorf("%d has the text %q", k, text)
		}
		if list := impl.TermVars(x); len(list) != 0 {
			t.Errorf("%d has the variables %v", k, list)
		}
		for _, other := range []impl.Term{x, num(0), named("a"), sized(60)} {
			if impl.TermSame(x, other) || impl.TermSame(other, x) {
				t.Errorf("%d is the same as %s", k, brieflyTerm(other))
			}
		}
		checkNoPut(t, x, "a", num(1))
		checkNoPut(t, x, "other", num(1))
		checkNoPut(t, named("a"), "a", x)
		checkNoPut(t, named("a"), "other", x)
		checkNoPut(t, x, "a", x)
		for _, s := range scopes() {
			checkNoValue(t, x, s)
		}
	}
}

func checkNoPut(t *testing.T, x impl.Term, name string, y impl.Term) {
	t.Helper()
	if got, ok := impl.TermPut(x, name, y); ok || !isNoTerm(got) {
		t.Errorf("TermPut(%s, %q, %s) = %s, %t", brieflyTerm(x), name, brieflyTerm(y), brieflyTerm(got), ok)
	}
}

func checkNoValue(t *testing.T, x impl.Term, s scope) {
	t.Helper()
	if n, ok := impl.TermValue(x, s.vars, s.mem); ok || n != 0 {
		t.Errorf("TermValue(%s, %v, %v) = %d, %t", brieflyTerm(x), brief(s.vars), brief(s.mem), n, ok)
	}
}

func checkValue(t *testing.T, x impl.Term, s scope, want int) {
	t.Helper()
	if n, ok := impl.TermValue(x, s.vars, s.mem); !ok || n != want {
		t.Errorf("TermValue(%s, %v, %v) = %d, %t, not %d", brieflyTerm(x), brief(s.vars), brief(s.mem), n, ok, want)
	}
}

// Promise 43: a term is read as it is written.

func TestPromise43Values(t *testing.T) {
	for _, s := range shownTerms() {
		if text := impl.TermText(s.term); text != s.text {
			t.Errorf("TermText of %q = %q", s.text, text)
		}
		if x, ok := impl.TermRead(s.text); !ok || !alikeTerms(x, s.term) {
			t.Errorf("TermRead(%q) = %s, %t", s.text, brieflyTerm(x), ok)
		}
	}
}

func TestPromise43ReadAsWritten(t *testing.T) {
	for _, x := range someTerms() {
		text := impl.TermText(x)
		if text != wantText(x) {
			t.Errorf("TermText of %q = %q", wantText(x), text)
		}
		if got, ok := impl.TermRead(text); !ok || !alikeTerms(got, x) || !impl.TermSame(got, x) {
			t.Errorf("TermRead(%q) = %s, %t", text, brieflyTerm(got), ok)
		}
	}
}

func TestPromise43AllNumbers(t *testing.T) {
	for n := range 65536 {
		text := impl.TermText(num(n))
		if x, ok := impl.TermRead(text); text != strconv.Itoa(n) || !ok || !alikeTerms(x, num(n)) {
			t.Fatalf("TermText of %d = %q, which is read as %s, %t", n, text, brieflyTerm(x), ok)
		}
	}
}

func TestPromise43AllOperators(t *testing.T) {
	parts := []impl.Term{num(0), num(65535), named("a"), not(named("b")), wordAt(num(1)), bin(num(1), "<", num(2)), bin(num(1), "<<", num(2))}
	for _, op := range opTexts {
		for _, a := range parts {
			for _, b := range parts {
				want := "(" + wantText(a) + " " + op + " " + wantText(b) + ")"
				text := impl.TermText(bin(a, op, b))
				if x, ok := impl.TermRead(text); text != want || !ok || !alikeTerms(x, bin(a, op, b)) {
					t.Errorf("TermText of %s = %q, which is read as %s, %t", want, text, brieflyTerm(x), ok)
				}
			}
		}
	}
}

// Promise 44: terms are equal just if their texts are.

// changedTerms are terms that differ from one another in one part alone.
func changedTerms() []impl.Term {
	base := "((word[a] + 1) < !byte[(b & 2)])"
	changes := []string{base,
		"((word[b] + 1) < !byte[(b & 2)])", "((word[a] + 2) < !byte[(b & 2)])", "((word[a] - 1) < !byte[(b & 2)])", "((byte[a] + 1) < !byte[(b & 2)])",
		"((word[a] + 1) << !byte[(b & 2)])", "((word[a] + 1) < byte[(b & 2)])", "((word[a] + 1) < !word[(b & 2)])", "((word[a] + 1) < !byte[(a & 2)])",
		"((word[a] + 1) < !byte[(2 & b)])", "((1 + word[a]) < !byte[(b & 2)])", "(!byte[(b & 2)] < (word[a] + 1))", "((word[0] + 1) < !byte[(b & 2)])",
		"((!a + 1) < !byte[(b & 2)])", "((a + 1) < !byte[(b & 2)])", "((word[a] + 1) < !byte[(b & 20)])", "((word[a] + 1) < !byte[(bb & 2)])",
		"((word[a] + 1) < !byte[(b & 2)])", "!((word[a] + 1) < !byte[(b & 2)])", "((word[a] + 1) == !byte[(b & 2)])", "((word[a] + 1) < 0)", "(0 < !byte[(b & 2)])",
	}
	var list []impl.Term
	for _, text := range changes {
		x, _ := wantReadTerm(text)
		list = append(list, x)
	}
	return list
}

func TestPromise44JustIfTheTextsAre(t *testing.T) {
	terms := slices.Concat(goodTerms(), changedTerms(), drawnTerms(300))
	var texts []string
	for _, x := range terms {
		texts = append(texts, impl.TermText(x))
	}
	for k, a := range terms {
		for l, b := range terms {
			want := alikeTerms(a, b)
			if is := impl.TermSame(a, b); is != want {
				t.Errorf("TermSame(%s, %s) = %t", texts[k], texts[l], is)
			}
			if is := texts[k] == texts[l]; is != want {
				t.Errorf("%s and %s have the same text: %t", texts[k], texts[l], is)
			}
		}
	}
}

func TestPromise44OneChange(t *testing.T) {
	terms := changedTerms()
	same := 0
	for _, a := range terms {
		for _, b := range terms {
			if impl.TermSame(a, b) {
				same++
			}
		}
	}
	// One of them stands there twice.
	if same != len(terms)+2 {
		t.Errorf("%d pairs are the same", same)
	}
}

func TestPromise44NilAndEmpty(t *testing.T) {
	a := bin(num(1), "+", named("a"))
	b := bin(impl.Term{Num: 1, Kids: []impl.Term{}}, "+", impl.Term{Kind: 1, Text: "a", Kids: []impl.Term{}})
	if !impl.TermSame(a, b) || !impl.TermSame(b, a) || impl.TermText(b) != "(1 + a)" {
		t.Error("nil and empty lists are not the same")
	}
	if !impl.TermSame(a, copiedTerm(a)) || !impl.TermSame(sized(60), sized(60)) {
		t.Error("equal terms are not the same")
	}
}

// Promise 45: a contrary has ! ahead.

func TestPromise45TheContrary(t *testing.T) {
	checked := 0
	for _, x := range someTerms() {
		contrary := not(x)
		if !wantTerm(contrary) {
			if text := impl.TermText(contrary); text != "" {
				t.Errorf("TermText of what is too large = %q", text)
			}
			continue
		}
		checked++
		if text := impl.TermText(contrary); text != "!"+impl.TermText(x) {
			t.Errorf("TermText of the contrary of %s = %q", wantText(x), text)
		}
		if got, ok := impl.TermRead("!" + impl.TermText(x)); !ok || !alikeTerms(got, contrary) {
			t.Errorf("TermRead of ! and %s = %s, %t", wantText(x), brieflyTerm(got), ok)
		}
	}
	if checked < 1000 {
		t.Errorf("just %d contraries", checked)
	}
}

func TestPromise45Values(t *testing.T) {
	want := map[string]impl.Term{"!0": num(0), "!a": named("a"), "!(a + b)": bin(named("a"), "+", named("b")), "!!a": not(named("a")), "!word[0]": wordAt(num(0)), "!byte[a]": byteAt(named("a"))}
	for text, x := range want {
		if got := impl.TermText(not(x)); got != text {
			t.Errorf("TermText = %q, not %q", got, text)
		}
	}
}

// Promise 46: what is read is written as it was.

// noTermTexts are the texts of no terms, most of them by one letter.
func noTermTexts() []string {
	list := []string{
		"", " ", "\n", "a ", " a", "a\n", "\na", "a\t", "a;", "a\x00", "\x00", "\xff", "é", "a\u0661", "\uE000", "A", "aB", "a_b", "_", "abcdefghi", "a12345678",
		"(a+b)", "(a +b)", "(a+ b)", "(a  + b)", "(a +  b)", "( a + b)", "(a + b )", " (a + b)", "(a + b) ", "(a\t+ b)", "(a +\nb)",
		"(a + b", "a + b)", "a + b", "((a + b)", "(a + b))", "((a + b))", "(a)", "((a) + b)", "()", "(", ")", "(a", "(a ", "(a +", "(a + ", "(a + )", "( + b)", "(+ b)",
		"[a + b]", "{a + b}", "(a b)", "(a, b)", "(a % b)", "(a / b)", "(a = b)", "(a != b)", "(a <= b)", "(a > b)", "(a >> b)", "(a <<< b)", "(a === b)", "(a < < b)", "(a + + b)", "(a + b + c)", "(a + -1)",
		"!", "!!", "! a", "a!", "!(a", "!(a)", "!)", "a b", "0 0", "a0 b", "a(b)", "a[b]", "ab[c]", "(a + b)c", "(a + b)0", "0(a + b)", "(a + b)(a + b)", "!ab!c", "00!a",
		"word[]", "word[a", "word[", "word]", "worda]", "word a]", "word(a)", "word [a]", "word[ a]", "word[a ]", "word[a]]", "word[[a]]", "word[a][b]", "Word[a]", "words[a]", "xword[a]", "0word[a]", "word[a]b", "word[a, b]", "word[a + b]",
		"byte[]", "byte[a", "byte", "bytes[a]", "byte[a)", "byte(a]", "word[byte]", "byte[word]", "word[word[a]", "byte[byte[a]]]",
		"00", "01", "007", "000000", "-0", "-1", "+1", "+0", "1 ", " 1", "1a", "9z", "0x1", "0b1", "1e3", "1.5", "1_0", "1,000", "065535", "65536", "65537", "70000", "99999", "100000", "655350", "131072",
		"2147483648", "4294967296", "4294967297", "9223372036854775807", "9223372036854775808", "18446744073709551616", "18446744073709551617",
		"(a + 01)", "(00 + a)", "(a + 65536)", "!65536", "word[065]", "byte[-1]",
		strings.Repeat("9", 1000), strings.Repeat("0", 1000), "1" + strings.Repeat("0", 100000), strings.Repeat("a", 100000),
		strings.Repeat("(", 1000000), strings.Repeat("!", 1000000), strings.Repeat("word[", 300000), strings.Repeat("byte[", 300000) + "a", strings.Repeat("(a + ", 300000), strings.Repeat("!", 1000000) + "a", strings.Repeat(" ", 1000000),
		strings.Repeat("(", 500000) + "a" + strings.Repeat(" + a)", 500000), strings.Repeat("!", 14) + "a", strings.Repeat("!", 14) + "0", strings.Repeat("(", 13) + strings.Repeat("(a + b)", 1000),
	}
	for _, word := range keywords {
		list = append(list, word, "!"+word, "("+word+" + a)", "(a + "+word+")", "word["+word+"]", "byte["+word+"]", "!"+word+"["+word+"]")
	}
	for _, x := range tooLargeTerms() {
		list = append(list, wantText(x))
	}
	return list
}

func checkNoTerm(t *testing.T, text string) {
	t.Helper()
	if x, ok := impl.TermRead(text); ok || !isNoTerm(x) {
		t.Errorf("TermRead(%q) of %d bytes = %s, %t", text[:min(len(text), 60)], len(text), brieflyTerm(x), ok)
	}
}

// checkReadTerm compares what is read with the second reading of chapter 9, and returns whether it is a term.
func checkReadTerm(t *testing.T, text string) bool {
	t.Helper()
	want, is := wantReadTerm(text)
	if !is {
		checkNoTerm(t, text)
		return false
	}
	x, ok := impl.TermRead(text)
	if !ok || !alikeTerms(x, want) || !impl.TermOk(x) || impl.TermText(x) != text {
		t.Errorf("TermRead(%q) = %s, %t, not %s", text, brieflyTerm(x), ok, wantText(want))
	}
	return true
}

func TestPromise46NoTexts(t *testing.T) {
	for _, text := range noTermTexts() {
		if _, ok := wantReadTerm(text); ok {
			t.Errorf("%q is the text of a term", text)
		}
		checkNoTerm(t, text)
	}
}

func TestPromise46TextsOfBadTerms(t *testing.T) {
	for _, x := range badTerms() {
		// What has no text of its own would be told by that of others.
		if len(x.Kids) <= 2 && x.Kind >= 0 && x.Kind <= 1 {
			checkReadTerm(t, wantText(x))
		}
	}
	for _, op := range noOperators {
		checkNoTerm(t, "(a "+op+" b)")
	}
	// Some of what is no name is a number.
	for _, name := range noFreeNames() {
		for _, text := range []string{name, "(a + " + name + ")"} {
			if checkReadTerm(t, text) != (name == "0" || name == "9") {
				t.Errorf("%q is told to be what it is not", text)
			}
		}
	}
}

func TestPromise46OneLetterMore(t *testing.T) {
	letters := "ab09z()[]! +-*&|^=<>%,;AZ_{}\n\t\x00\x7f\x80\xff"
	taken, refused := 0, 0
	for _, s := range shownTerms() {
		var texts []string
		for k := range len(s.text) + 1 {
			ahead, behind := s.text[:k], s.text[k:]
			texts = append(texts, ahead, behind)
			for _, letter := range []byte(letters) {
				texts = append(texts, ahead+string([]byte{letter})+behind)
				if behind != "" {
					texts = append(texts, ahead+string([]byte{letter})+behind[1:])
				}
			}
			if behind != "" {
				texts = append(texts, ahead+behind[1:], ahead+behind[:1]+behind)
			}
		}
		for _, text := range texts {
			if checkReadTerm(t, text) {
				taken++
			} else {
				refused++
			}
		}
	}
	if taken < 1000 || refused < 10000 {
		t.Errorf("%d texts were taken, and %d refused", taken, refused)
	}
}

func TestPromise46AllShortTexts(t *testing.T) {
	parts := []string{"a", "7", "(", ")", "!", " + ", " << ", "word[", "]", " "}
	texts := []string{""}
	taken := 0
	for range 5 {
		var longer []string
		for _, text := range texts {
			for _, part := range parts {
				longer = append(longer, text+part)
			}
		}
		for _, text := range longer {
			if checkReadTerm(t, text) {
				taken++
			}
		}
		texts = longer
	}
	if taken < 100 {
		t.Errorf("just %d texts of terms", taken)
	}
}

func TestPromise46LongTexts(t *testing.T) {
	l := &lot{state: 46}
	for _, x := range append(largestTerms(), drawnTerms(300)...) {
		text := wantText(x)
		checkReadTerm(t, text)
		for range 20 {
			from := l.next(len(text) + 1)
			to := from + l.next(len(text)-from+1)
			checkReadTerm(t, text[:from]+text[to:])
			checkReadTerm(t, text[:to]+text[from:])
			checkReadTerm(t, text[from:to])
		}
	}
}

// Promise 47: a variable that was put away is there no more.

func TestPromise47Variables(t *testing.T) {
	for _, s := range shownTerms() {
		if list := impl.TermVars(s.term); !slices.Equal(list, strings.Fields(s.vars)) {
			t.Errorf("TermVars of %s = %v, not %s", s.text, list, s.vars)
		}
	}
	for _, x := range someTerms() {
		if list := impl.TermVars(x); !slices.Equal(list, wantVars(x)) {
			t.Errorf("TermVars of %s = %v, not %v", wantText(x), list, wantVars(x))
		}
	}
}

func TestPromise47ManyVariables(t *testing.T) {
	var want []string
	for k := range 30 {
		want = append(want, "v"+strconv.Itoa(29-k))
	}
	for len(want) > 0 {
		x := wide(want)
		if list := impl.TermVars(x); !slices.Equal(list, want) {
			t.Errorf("TermVars of %s = %v", wantText(x), list)
		}
		want = want[1:]
	}
}

// wide is a term that has variables in order.
func wide(names []string) impl.Term {
	if len(names) == 1 {
		return named(names[0])
	}
	half := len(names) / 2
	return bin(wide(names[:half]), "+", wide(names[half:]))
}

func TestPromise47PutAway(t *testing.T) {
	checked := 0
	for _, x := range someTerms() {
		list := impl.TermVars(x)
		for k, name := range list {
			checked++
			got, ok := impl.TermPut(x, name, num(1))
			want := slices.Delete(slices.Clone(list), k, k+1)
			if !ok || !slices.Equal(impl.TermVars(got), want) {
				t.Errorf("TermPut(%s, %s, 1) = %s, %t", wantText(x), name, brieflyTerm(got), ok)
			}
		}
		if got, ok := impl.TermPut(x, "none", num(1)); !ok || !alikeTerms(got, x) {
			t.Errorf("TermPut(%s, none, 1) = %s, %t", wantText(x), brieflyTerm(got), ok)
		}
	}
	if checked < 1000 {
		t.Errorf("just %d variables", checked)
	}
}

func TestPromise47Values(t *testing.T) {
	// What stands there, the name, what is put in, and what comes of it; "" for nothing.
	rows := [][4]string{
		{"a", "a", "5", "5"},
		{"a", "a", "a", "a"},
		{"a", "a", "b", "b"},
		{"a", "b", "5", "a"},
		{"7", "a", "5", "7"},
		{"a", "a", "(a + 1)", "(a + 1)"},
		{"(a + a)", "a", "(a + 1)", "((a + 1) + (a + 1))"},
		{"(a + b)", "a", "(b - a)", "((b - a) + b)"},
		{"(a + b)", "b", "(b - a)", "(a + (b - a))"},
		{"(word[r0] + !x)", "x", "5", "(word[r0] + !5)"},
		{"(word[r0] + !x)", "r0", "byte[x]", "(word[byte[x]] + !x)"},
		{"(aa + a)", "a", "0", "(aa + 0)"},
		{"(aa + a)", "aa", "0", "(0 + a)"},
		{"(words + word[words])", "words", "!words", "(!words + word[!words])"},
		{"((a < b) << (b == a))", "b", "word[a]", "((a < word[a]) << (word[a] == a))"},
		{"!a", "a", "!a", "!!a"},
	}
	for _, row := range rows {
		x, _ := wantReadTerm(row[0])
		y, _ := wantReadTerm(row[2])
		if got, ok := impl.TermPut(x, row[1], y); !ok || impl.TermText(got) != row[3] {
			t.Errorf("TermPut(%s, %s, %s) = %s, %t, not %s", row[0], row[1], row[2], brieflyTerm(got), ok, row[3])
		}
	}
}

func TestPromise47SameAsTheTexts(t *testing.T) {
	l := &lot{state: 47}
	terms, large := someTerms(), append(largestTerms(), sized(20), sized(40))
	names := []string{"a", "b", "r0", "x9", "words", "abcdefgh", "v", "other"}
	put, refused := 0, 0
	for k := range 6000 {
		x, y, name := terms[l.next(len(terms))], terms[l.next(len(terms))], names[l.next(len(names))]
		if k%2 == 0 {
			y = large[l.next(len(large))]
		}
		want, is := wantPut(x, name, y)
		if !is {
			refused++
			checkNoPut(t, x, name, y)
			continue
		}
		put++
		if got, ok := impl.TermPut(x, name, y); !ok || !alikeTerms(got, want) {
			t.Errorf("TermPut(%s, %s, %s) = %s, %t, not %s", wantText(x), name, wantText(y), brieflyTerm(got), ok, wantText(want))
		}
	}
	if put < 1000 || refused < 300 {
		t.Errorf("%d were put in, and %d refused", put, refused)
	}
}

func TestPromise47AsLargeAsThereMayBe(t *testing.T) {
	// 59 terms, one of which is a, and 14 high, at whose lowest place a stands.
	large := bin(named("a"), "+", sized(57))
	for count := 1; count <= 60; count++ {
		got, ok := impl.TermPut(large, "a", sized(count))
		if ok != (count <= 2) || ok && !alikeTerms(got, bin(sized(count), "+", sized(57))) || !ok && !isNoTerm(got) {
			t.Errorf("TermPut of %d terms in the place of one of 59 = %s, %t", count, brieflyTerm(got), ok)
		}
	}
	for high := 1; high <= 14; high++ {
		for k := range tallOnes(1, named("a")) {
			for below := 1; below <= 14; below++ {
				x, y := tallOnes(high, named("a"))[k], tallOnes(below, num(0))[0]
				want, is := wantPut(x, "a", y)
				got, ok := impl.TermPut(x, "a", y)
				if is != (high+below <= 15) || ok != is || !alikeTerms(got, want) {
					t.Errorf("TermPut of one that is %d high into one that is %d high = %s, %t", below, high, brieflyTerm(got), ok)
				}
			}
		}
	}
	// The variable stands there 20 times, so that what is put in counts for each of them.
	many := wide(slices.Repeat([]string{"a"}, 20))
	for count, is := range []bool{1: true, 2: true, 3: false, 4: false} {
		if count > 0 {
			if _, ok := impl.TermPut(many, "a", sized(count)); ok != is {
				t.Errorf("TermPut of %d terms in 20 places = %t", count, ok)
			}
		}
	}
	// What is put nowhere may be as large as it likes, if it is a term.
	for _, x := range largestTerms() {
		for _, y := range largestTerms() {
			if got, ok := impl.TermPut(x, "nowhere", y); !ok || !alikeTerms(got, x) {
				t.Errorf("TermPut(%s, nowhere, %s) = %s, %t", wantText(x), wantText(y), brieflyTerm(got), ok)
			}
		}
		checkNoPut(t, x, "nowhere", sized(61))
		if got, ok := impl.TermPut(named("a"), "a", x); !ok || !alikeTerms(got, x) {
			t.Errorf("TermPut(a, a, %s) = %s, %t", wantText(x), brieflyTerm(got), ok)
		}
	}
}

func TestPromise47NoNames(t *testing.T) {
	for _, name := range noFreeNames() {
		for _, x := range goodTerms() {
			checkNoPut(t, x, name, num(1))
		}
	}
	for _, name := range []string{"+", "==", "!", "0", "5", "(a + b)"} {
		checkNoPut(t, bin(named("a"), "+", num(5)), name, num(1))
	}
}

// Promise 48: what is put in the place of a variable counts as its value.

func TestPromise48Values(t *testing.T) {
	s := scope{vars: []impl.Var{{Name: "a", Num: 3}, {Name: "b", Num: 65535}, {Name: "p", Num: 1}, {Name: "r0", Num: 1}}, mem: []int{9, 1, 2, 255}}
	rows := map[string]int{
		"0": 0, "65535": 65535, "a": 3, "b": 65535, "c": 0, "aa": 0,
		"(a + b)": 2, "(a - b)": 4, "(b - a)": 65532, "(a * b)": 65533, "(b * b)": 1, "(a & 6)": 2, "(a | 6)": 7, "(a ^ 6)": 5, "(b ^ b)": 0,
		"(a == 3)": 1, "(a == 4)": 0, "(b == 65535)": 1, "(a < b)": 0, "(b < a)": 1, "(a << b)": 1, "(b << a)": 0, "(a < a)": 0, "(a << a)": 0, "(32768 < 32767)": 1, "(32768 << 32767)": 0,
		"!0": 1, "!1": 0, "!65535": 0, "!c": 1, "!!a": 1, "!!!a": 0,
		"byte[0]": 9, "byte[3]": 255, "word[0]": 265, "word[1]": 513, "word[2]": 65282, "(word[r0] + !x)": 514, "(word[r0] + !a)": 513, "(word[r0] + !c)": 514,
		"byte[byte[p]]": 1, "word[byte[p]]": 513, "byte[byte[byte[1]]]": 1, "word[(a - 1)]": 65282, "word[(b + 1)]": 265, "byte[(a + b)]": 2,
		"((a - b) - a)": 1, "(a - (b - a))": 7, "((a + 1) * (a - 1))": 8, "((a << b) + (b < a))": 2, "(!(a == 3) | !c)": 1, "!!word[(a + b)]": 1,
	}
	for text, want := range rows {
		x, ok := wantReadTerm(text)
		if !ok {
			t.Errorf("%s is no term", text)
		}
		checkValue(t, x, s, want)
	}
	for _, text := range []string{"byte[4]", "word[3]", "word[4]", "byte[65535]", "word[65535]", "word[b]", "byte[b]", "!byte[4]", "(0 * byte[4])", "(byte[4] & 0)", "(word[3] == word[3])", "(word[3] - word[3])", "byte[byte[3]]", "word[byte[4]]", "byte[(a + 1)]", "(byte[0] + byte[9])", "(byte[9] + byte[0])", "((1 + byte[9]) * 0)", "!!word[(a + 2)]"} {
		x, ok := wantReadTerm(text)
		if !ok {
			t.Errorf("%s is no term", text)
		}
		checkNoValue(t, x, s)
	}
}

func TestPromise48OperatorsOfWords(t *testing.T) {
	for _, p := range somePairs()[:4000] {
		a, b := p[0], p[1]
		s := scope{vars: []impl.Var{{Name: "a", Num: a}, {Name: "b", Num: b}}}
		for _, op := range opTexts {
			want := int(wantOf(op, uint16(a), uint16(b)))
			checkValue(t, bin(num(a), op, num(b)), scope{}, want)
			checkValue(t, bin(named("a"), op, named("b")), s, want)
		}
		checkValue(t, not(num(a)), scope{}, int(wantOf("==", uint16(a), 0)))
	}
}

// The operators are those of chapter 1.
func TestPromise48OperatorsOfChapter1(t *testing.T) {
	for _, p := range somePairs()[:1000] {
		a, b := p[0], p[1]
		for op := impl.AluAdd; op <= impl.AluXor; op++ {
			checkValue(t, bin(num(a), opTexts[op], num(b)), scope{}, impl.AluDo(op, a, b))
		}
		f := impl.FlagsOf(a, b)
		for k, is := range []bool{f.Equal, f.Less, f.Low} {
			checkValue(t, bin(num(a), opTexts[6+k], num(b)), scope{}, len(trues([]bool{is})))
		}
	}
}

func TestPromise48Memory(t *testing.T) {
	for room := 0; room <= 64; room++ {
		mem := codeOf(64)[:room]
		for _, at := range slices.Concat(upTo(70), []int{127, 128, 255, 256, 257, 32767, 32768, 65471, 65472, 65534, 65535}) {
			for _, s := range []scope{{mem: mem}, {vars: []impl.Var{{Name: "a", Num: at}}, mem: mem}} {
				address := num(at)
				if len(s.vars) > 0 {
					address = named("a")
				}
				if at < room {
					checkValue(t, byteAt(address), s, mem[at])
				} else {
					checkNoValue(t, byteAt(address), s)
				}
				// The byte behind the end of memory stands in the list, but must not be read.
				if at+1 < room {
					checkValue(t, wordAt(address), s, mem[at]+256*mem[at+1])
				} else {
					checkNoValue(t, wordAt(address), s)
				}
			}
		}
	}
}

func TestPromise48OneOfSeveralParts(t *testing.T) {
	s := scope{mem: []int{0, 5}}
	is, none := []impl.Term{num(0), num(1), byteAt(num(1)), wordAt(num(0)), named("a")}, []impl.Term{byteAt(num(2)), wordAt(num(1)), byteAt(wordAt(num(0))), not(byteAt(num(65535)))}
	for _, op := range opTexts {
		for _, a := range is {
			for _, b := range none {
				checkNoValue(t, bin(a, op, b), s)
				checkNoValue(t, bin(b, op, a), s)
				checkNoValue(t, bin(b, op, b), s)
				checkNoValue(t, bin(num(0), "*", bin(a, op, b)), s)
				checkNoValue(t, bin(bin(b, op, a), "&", num(0)), s)
			}
			for _, b := range is {
				if _, ok := impl.TermValue(bin(a, op, b), s.vars, s.mem); !ok {
					t.Errorf("%s has no value", wantText(bin(a, op, b)))
				}
			}
		}
	}
}

func TestPromise48Variables(t *testing.T) {
	a := named("a")
	checkValue(t, a, scope{vars: []impl.Var{{Name: "a", Num: 1}, {Name: "a", Num: 2}}}, 2)
	checkValue(t, a, scope{vars: []impl.Var{{Name: "a", Num: 2}, {Name: "a", Num: 0}}}, 0)
	checkValue(t, a, scope{vars: []impl.Var{{Name: "a", Num: 2}, {Name: "b", Num: 5}, {Name: "a", Num: 7}, {Name: "b", Num: 6}}}, 7)
	checkValue(t, named("b"), scope{vars: []impl.Var{{Name: "a", Num: 2}, {Name: "b", Num: 5}, {Name: "a", Num: 7}, {Name: "b", Num: 6}}}, 6)
	checkValue(t, a, scope{}, 0)
	checkValue(t, a, scope{vars: []impl.Var{{Name: "aa", Num: 1}, {Name: "b", Num: 1}}}, 0)
	checkValue(t, a, scope{vars: []impl.Var{{Name: "a", Num: 65535}}}, 65535)
	for count := 0; count <= 130; count++ {
		// All have the same name, or all have other ones.
		same, others := make([]impl.Var, count), make([]impl.Var, count)
		for k := range count {
			same[k] = impl.Var{Name: "a", Num: k + 1}
			others[k] = impl.Var{Name: "v" + strconv.Itoa(k), Num: k + 1}
		}
		if count <= 60 {
			checkValue(t, a, scope{vars: same}, count)
			checkValue(t, a, scope{vars: others}, 0)
			checkValue(t, named("v0"), scope{vars: others}, min(count, 1))
			checkValue(t, named("v"+strconv.Itoa(max(count-1, 0))), scope{vars: others}, count)
		} else {
			checkNoValue(t, a, scope{vars: same})
			checkNoValue(t, num(5), scope{vars: others})
		}
	}
}

func TestPromise48NoVariables(t *testing.T) {
	good := impl.Var{Name: "a", Num: 1}
	for _, x := range []impl.Term{num(5), named("a"), named("b"), byteAt(num(0))} {
		for _, name := range noFreeNames() {
			bad := impl.Var{Name: name, Num: 1}
			for _, list := range [][]impl.Var{{bad}, {good, bad}, {bad, good}, {good, bad, good}} {
				checkNoValue(t, x, scope{vars: list, mem: []int{3}})
			}
		}
		for _, n := range noWords {
			bad := impl.Var{Name: "a", Num: n}
			for _, list := range [][]impl.Var{{bad}, {good, bad}, {bad, good}, {{Name: "other", Num: n}}} {
				checkNoValue(t, x, scope{vars: list, mem: []int{3}})
			}
		}
	}
}

func TestPromise48NoMemory(t *testing.T) {
	for _, x := range []impl.Term{num(5), named("a"), byteAt(num(0)), wordAt(num(0))} {
		for _, long := range []int{65, 66, 100, 256, 100000} {
			checkNoValue(t, x, scope{mem: make([]int, long)})
		}
		for _, n := range noBytes {
			for _, mem := range [][]int{{n}, {1, 2, n}, {n, 1, 2}, append(make([]int, 63), n), append([]int{n}, make([]int, 63)...)} {
				checkNoValue(t, x, scope{mem: mem})
			}
		}
		if _, ok := impl.TermValue(x, nil, make([]int, 64)); !ok {
			t.Errorf("%s has no value with as much memory as there may be", wantText(x))
		}
	}
	for n := -300; n <= 600; n++ {
		if got, ok := impl.TermValue(byteAt(num(1)), nil, []int{0, n}); ok != between(n, 0, 255) || ok && got != n || !ok && got != 0 {
			t.Errorf("TermValue of the byte %d = %d, %t", n, got, ok)
		}
	}
}

func TestPromise48SameAsSixteenBits(t *testing.T) {
	with, without := 0, 0
	for _, x := range someTerms() {
		for _, s := range scopes() {
			if want, is := s.want(x); is {
				with++
				checkValue(t, x, s, want)
			} else {
				without++
				checkNoValue(t, x, s)
			}
		}
	}
	if with < 3000 || without < 3000 {
		t.Errorf("%d values, and %d without", with, without)
	}
}

func TestPromise48PutInCountsAsItsValue(t *testing.T) {
	l := &lot{state: 48}
	terms, all := someTerms(), scopes()
	names := []string{"a", "b", "r0", "x9", "words", "abcdefgh", "v", "other"}
	same, none, without := 0, 0, 0
	for range 20000 {
		x, y, s, name := terms[l.next(len(terms))], terms[l.next(len(terms))], all[l.next(len(all))], names[l.next(len(names))]
		put, ok := impl.TermPut(x, name, y)
		if !ok || len(s.vars) == 60 {
			continue
		}
		value, is := impl.TermValue(y, s.vars, s.mem)
		if !is {
			// What has no value counts just where it stands.
			if slices.Contains(impl.TermVars(x), name) {
				none++
				checkNoValue(t, put, s)
			} else if want, ok := impl.TermValue(x, s.vars, s.mem); ok {
				without++
				checkValue(t, put, s, want)
			}
			continue
		}
		with := append(slices.Clone(s.vars), impl.Var{Name: name, Num: value})
		want, wantOk := impl.TermValue(x, with, s.mem)
		if got, ok := impl.TermValue(put, s.vars, s.mem); ok != wantOk || got != want {
			t.Errorf("TermValue of %s with %s for %s = %d, %t, not %d, %t", wantText(x), wantText(y), name, got, ok, want, wantOk)
		}
		if wantOk {
			same++
		}
	}
	if same < 2000 || none < 300 || without < 300 {
		t.Errorf("just %d values were the same, %d without, and %d others", same, none, without)
	}
}

// What is returned is new, and what is told stays.

// cellsOf has the places in memory of all parts of a term, also of those behind the ends of lists.
func cellsOf(x impl.Term) []*impl.Term {
	var list []*impl.Term
	whole := x.Kids[:cap(x.Kids)]
	for k := range whole {
		list = append(list, &whole[k])
	}
	for _, kid := range x.Kids {
		list = append(list, cellsOf(kid)...)
	}
	return list
}

// checkApart checks that terms have no memory in common, and none of them twice.
func checkApart(t *testing.T, what string, list ...impl.Term) {
	t.Helper()
	seen := map[*impl.Term]bool{}
	for k, x := range list {
		for _, cell := range cellsOf(x) {
			if seen[cell] {
				t.Errorf("%s: term %d shares memory", what, k)
				return
			}
			seen[cell] = true
		}
	}
}

// guardedTerm has the same parts as a term, with another one behind the end of each list, also of those of no parts.
func guardedTerm(x impl.Term) impl.Term {
	kids := []impl.Term{}
	for _, kid := range x.Kids {
		kids = append(kids, guardedTerm(kid))
	}
	x.Kids = append(kids, impl.Term{Kind: 77})[:len(kids)]
	return x
}

func isGuardedTerm(x impl.Term) bool {
	for _, kid := range x.Kids {
		if !isGuardedTerm(kid) {
			return false
		}
	}
	return x.Kids[:len(x.Kids)+1][len(x.Kids)].Kind == 77
}

func spoilTerm(x impl.Term) {
	for _, cell := range cellsOf(x) {
		*cell = impl.Term{Kind: 88, Num: 77777, Text: "spoilt"}
	}
}

func TestTermReadSharesNothing(t *testing.T) {
	for _, want := range someTerms() {
		text := wantText(want)
		first, _ := impl.TermRead(text)
		second, _ := impl.TermRead(text)
		checkApart(t, "TermRead of "+text, first, second)
		spoilTerm(first)
		if third, ok := impl.TermRead(text); !alikeTerms(second, want) || !ok || !alikeTerms(third, want) {
			t.Errorf("TermRead of %s shares memory", text)
		}
	}
}

func TestTermVarsSharesNothing(t *testing.T) {
	for _, want := range someTerms() {
		x := copiedTerm(want)
		first, second := impl.TermVars(x), impl.TermVars(x)
		for k := range first[:cap(first)] {
			first[:cap(first)][k] = "spoilt"
		}
		if third := impl.TermVars(x); !slices.Equal(second, wantVars(want)) || !slices.Equal(third, second) || !alikeTerms(x, want) {
			t.Errorf("TermVars of %s shares memory", wantText(want))
		}
	}
}

func TestTermPutSharesNothing(t *testing.T) {
	l := &lot{state: 7}
	terms := someTerms()
	for range 3000 {
		x, y := guardedTerm(terms[l.next(len(terms))]), guardedTerm(terms[l.next(len(terms))])
		name := append(wantVars(x), "none")[0]
		want, is := wantPut(x, name, y)
		first, ok := impl.TermPut(x, name, y)
		second, _ := impl.TermPut(x, name, y)
		if ok != is || !alikeTerms(first, want) {
			t.Errorf("TermPut(%s, %s, %s) = %s, %t", wantText(x), name, wantText(y), brieflyTerm(first), ok)
		}
		checkApart(t, "TermPut into "+wantText(x), x, y, first, second)
		spoilTerm(first)
		if !alikeTerms(second, want) || !isGuardedTerm(x) || !isGuardedTerm(y) {
			t.Errorf("TermPut(%s, %s, %s) shares memory", wantText(x), name, wantText(y))
		}
		spoilTerm(x)
		spoilTerm(y)
		if !alikeTerms(second, want) {
			t.Errorf("TermPut of %s shares memory with what it was made of", wantText(want))
		}
	}
}

// A term may be put into itself, and its parts may share memory.
func TestTermPutOfOneTerm(t *testing.T) {
	kids := []impl.Term{named("a"), named("b")}
	x := impl.Term{Kind: 2, Text: "+", Kids: []impl.Term{{Kind: 2, Text: "-", Kids: kids}, {Kind: 2, Text: "*", Kids: kids}}}
	got, ok := impl.TermPut(x, "a", x)
	if text := "((((a - b) + (a * b)) - b) + (((a - b) + (a * b)) * b))"; !ok || impl.TermText(got) != text {
		t.Errorf("TermPut = %s, %t", brieflyTerm(got), ok)
	}
	checkApart(t, "TermPut into itself", got, impl.Term{Kids: kids}, impl.Term{Kids: x.Kids[:0:2]})
	if impl.TermText(x) != "((a - b) + (a * b))" {
		t.Errorf("TermPut changed its arguments to %s", brieflyTerm(x))
	}
}

func TestTermsAreNotChanged(t *testing.T) {
	other := guardedTerm(bin(named("a"), "+", wordAt(num(0))))
	for k, x := range slices.Concat(goodTerms(), drawnTerms(300), badForms(), tooLargeTerms()) {
		if len(x.Kids) > 3 {
			continue
		}
		guarded := guardedTerm(x)
		for range 2 {
			ok := impl.TermOk(guarded)
			text, _ := impl.TermText(guarded), impl.TermVars(guarded)
			_, put := impl.TermPut(guarded, "other", other)
			_, into := impl.TermPut(other, "other", guarded)
			if impl.TermSame(guarded, x) != ok || impl.TermSame(x, guarded) != ok || (text != "") != ok || put != ok || into != ok {
				t.Errorf("term %d is told in different ways", k)
			}
			for _, s := range scopes() {
				impl.TermValue(guarded, s.vars, s.mem)
			}
		}
		if !alikeTerms(guarded, x) || !isGuardedTerm(guarded) || !isGuardedTerm(other) {
			t.Errorf("term %d was changed", k)
		}
	}
}

func TestTermValueChangesNothing(t *testing.T) {
	for _, x := range append(goodTerms(), drawnTerms(200)...) {
		for _, s := range scopes() {
			vars, mem := append(slices.Clone(s.vars), impl.Var{Name: "guard", Num: 99}), append(slices.Clone(s.mem), 99)
			keptVars, keptMem := slices.Clone(vars), slices.Clone(mem)
			first, firstOk := impl.TermValue(x, vars[:len(s.vars)], mem[:len(s.mem)])
			second, secondOk := impl.TermValue(x, vars[:len(s.vars)], mem[:len(s.mem)])
			if first != second || firstOk != secondOk {
				t.Errorf("TermValue of %s = %d, %t, and then %d, %t", wantText(x), first, firstOk, second, secondOk)
			}
			if !slices.Equal(vars, keptVars) || !slices.Equal(mem, keptMem) {
				t.Errorf("TermValue of %s changed its arguments", wantText(x))
			}
		}
	}
}
