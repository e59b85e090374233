package tests

import (
	"slices"
	"strconv"
	"strings"
	"testing"

	"loop.example/liftedcode/impl"
)

// A second reading of chapter 10: its table as patterns, of which one is put in at a time, at the first place that has one.

// foldRow is a row of the table of chapter 10, or a part of one: a stands for any term, m and n for words, and in to also what is made of these.
type foldRow struct {
	from  impl.Term
	to    impl.Term
	wants string
}

var foldRows = readFoldRows()

// foldTexts has the rows in the order of chapter 10, those for several operators once for each of them.
func foldTexts() [][3]string {
	var list [][3]string
	for _, op := range opTexts {
		list = append(list, [3]string{"(m " + op + " n)", "made"})
	}
	for _, op := range strings.Fields("+ * & | ^ ==") {
		list = append(list, [3]string{"(n " + op + " a)", "(a " + op + " n)"})
	}
	for _, text := range []string{"(a + 0)", "(a - 0)", "(a | 0)", "(a ^ 0)", "(a * 1)", "(a & 65535)"} {
		list = append(list, [3]string{text, "a"})
	}
	for _, text := range []string{"(a * 0)", "(a & 0)", "(a << 0)"} {
		list = append(list, [3]string{text, "0", "plain"})
	}
	list = append(list, [3]string{"(a | 65535)", "65535", "plain"}, [3]string{"(a == 0)", "!a", "truth"}, [3]string{"(a == 1)", "a", "truth"})
	list = append(list, [3]string{"(a - n)", "(a + below)"}, [3]string{"((a + m) + n)", "(a + sum)"})
	for _, text := range []string{"(a - a)", "(a ^ a)", "(a < a)", "(a << a)"} {
		list = append(list, [3]string{text, "0", "plain"})
	}
	list = append(list, [3]string{"(a == a)", "1", "plain"}, [3]string{"(a & a)", "a", "plain"}, [3]string{"(a | a)", "a", "plain"})
	return append(list, [3]string{"!0", "1"}, [3]string{"!n", "0"}, [3]string{"!!a", "a", "truth"})
}

func readFoldRows() []foldRow {
	var list []foldRow
	for _, texts := range foldTexts() {
		list = append(list, foldRow{from: termOf(texts[0]), to: termOf(texts[1]), wants: texts[2]})
	}
	return list
}

// termOf reads a text that is known to be that of a term.
func termOf(text string) impl.Term {
	x, ok := wantReadTerm(text)
	if !ok {
		panic(text + " is the text of no term")
	}
	return x
}

// fits tells what stands for the letters of a row.
type fits map[string]impl.Term

// takes reports whether a term has a pattern, and notes what stands for its letters then.
func (f fits) takes(pattern impl.Term, x impl.Term) bool {
	if pattern.Kind == 1 {
		if was, ok := f[pattern.Text]; ok {
			return alikeTerms(was, x)
		}
		f[pattern.Text] = x
		return pattern.Text == "a" || x.Kind == 0
	}
	return pattern.Kind == x.Kind && pattern.Num == x.Num && pattern.Text == x.Text && slices.EqualFunc(pattern.Kids, x.Kids, f.takes)
}

// filled returns a pattern with what stands for its letters.
func (f fits) filled(pattern impl.Term) impl.Term {
	if pattern.Kind == 1 {
		return f[pattern.Text]
	}
	var kids []impl.Term
	for _, kid := range pattern.Kids {
		kids = append(kids, f.filled(kid))
	}
	pattern.Kids = kids
	return pattern
}

func wantPlain(x impl.Term) bool {
	return !strings.Contains(wantText(x), "[")
}

func wantTruth(x impl.Term) bool {
	return strings.HasPrefix(wantText(x), "!") || slices.Contains([]string{"==", "<", "<<"}, x.Text) || wantText(x) == "0" || wantText(x) == "1"
}

// of returns what a row makes of a term, if it is for it.
func (r foldRow) of(x impl.Term) (impl.Term, bool) {
	f := fits{}
	if !f.takes(r.from, x) || r.wants == "plain" && !wantPlain(f["a"]) || r.wants == "truth" && !wantTruth(f["a"]) {
		return impl.Term{}, false
	}
	m, n := uint16(f["m"].Num), uint16(f["n"].Num)
	f["made"], f["below"], f["sum"] = num(int(wantOf(r.from.Text, m, n))), num(int(-n)), num(int(m+n))
	return f.filled(r.to), true
}

// wantStep returns a term with one rule put in, at the first place of all whose parts are for none; false if there is no rule for it.
func wantStep(x impl.Term) (impl.Term, bool) {
	for k, kid := range x.Kids {
		if step, ok := wantStep(kid); ok {
			x.Kids = slices.Clone(x.Kids)
			x.Kids[k] = step
			return x, true
		}
	}
	for _, row := range foldRows {
		if step, ok := row.of(x); ok {
			return step, true
		}
	}
	return x, false
}

func wantFold(x impl.Term) impl.Term {
	for {
		step, ok := wantStep(x)
		if !ok {
			return x
		}
		x = step
	}
}

func checkFold(t *testing.T, x impl.Term) impl.Term {
	t.Helper()
	got, ok := impl.TermFold(x)
	if want := wantFold(x); !ok || !alikeTerms(got, want) {
		t.Errorf("TermFold(%s) = %s, %t, not %s", wantText(x), brieflyTerm(got), ok, wantText(want))
	}
	return got
}

func checkFoldText(t *testing.T, text string, want string) {
	t.Helper()
	if got, ok := impl.TermFold(termOf(text)); !ok || !alikeTerms(got, termOf(want)) {
		t.Errorf("TermFold(%s) = %s, %t, not %s", text, brieflyTerm(got), ok, want)
	}
}

func checkNoFold(t *testing.T, x impl.Term) {
	t.Helper()
	if got, ok := impl.TermFold(x); ok || !isNoTerm(got) {
		t.Errorf("TermFold(%s) = %s, %t", brieflyTerm(x), brieflyTerm(got), ok)
	}
}

func checkCond(t *testing.T, cond int, a impl.Term, b impl.Term, want string) {
	t.Helper()
	if got, ok := impl.CondTerm(cond, a, b); !ok || !alikeTerms(got, termOf(want)) {
		t.Errorf("CondTerm(%d, %s, %s) = %s, %t, not %s", cond, wantText(a), wantText(b), brieflyTerm(got), ok, want)
	}
}

func checkNoCond(t *testing.T, cond int, a impl.Term, b impl.Term) {
	t.Helper()
	if got, ok := impl.CondTerm(cond, a, b); ok || !isNoTerm(got) {
		t.Errorf("CondTerm(%d, %s, %s) = %s, %t", cond, brieflyTerm(a), brieflyTerm(b), brieflyTerm(got), ok)
	}
}

// foldable draws a term for which there often is a rule: with few words and variables, and with same parts, or parts that are nearly the same.
func (l *lot) foldable(high int) impl.Term {
	if high == 1 || l.next(7) == 0 {
		return l.foldableAlone()
	}
	switch l.next(10) {
	case 0, 1:
		return not(l.foldable(high - 1))
	case 2:
		return []func(a impl.Term) impl.Term{wordAt, byteAt}[l.next(2)](l.foldable(high - 1))
	}
	a, b := l.foldable(high-1), l.foldable(high-1)
	switch l.next(6) {
	case 0:
		b = copiedTerm(a)
	case 1:
		_, places := putAt(a, -1, a)
		b, _ = putAt(a, l.next(places), l.foldableAlone())
	case 2:
		b = num(l.oneOf(0, 1, 65535))
	case 3:
		a = num(l.oneOf(0, 1, 65535))
	}
	return bin(a, opTexts[l.next(len(opTexts))], b)
}

func (l *lot) foldableAlone() impl.Term {
	if l.next(2) == 0 {
		return named([]string{"a", "b", "r0"}[l.next(3)])
	}
	return num(l.oneOf(0, 1, 2, 3, 62, 32767, 32768, 65534, 65535))
}

func foldableTerms(count int) []impl.Term {
	l := &lot{state: 10}
	var list []impl.Term
	for len(list) < count {
		if x := l.foldable(2 + l.next(6)); wantTerm(x) {
			list = append(list, x)
		}
	}
	return list
}

func termsToFold() []impl.Term {
	return slices.Concat(goodTerms(), changedTerms(), drawnTerms(500), foldableTerms(8000))
}

// smallTerms are all terms that have at most one operator in each part, with words and parts for which there are rules, and parts for which there are none.
func smallTerms() []impl.Term {
	alone := []impl.Term{num(0), num(1), num(65535), num(7), named("a"), named("b"), byteAt(named("a"))}
	list := slices.Clone(alone)
	for _, a := range alone {
		list = append(list, not(a), not(not(a)), wordAt(a))
		for _, op := range opTexts {
			for _, b := range alone {
				list = append(list, bin(a, op, b))
			}
		}
	}
	for _, part := range slices.Clone(list) {
		list = append(list, not(part), not(not(part)), byteAt(part))
		for _, op := range opTexts {
			list = append(list, bin(part, op, part))
			for _, a := range alone {
				list = append(list, bin(a, op, part), bin(part, op, a))
			}
		}
	}
	return list
}

// Promise 49: a simpler term has the same value.

func TestPromise49TwoWords(t *testing.T) {
	rows := map[string]string{
		"(3 + 4)": "7", "(65535 + 1)": "0", "(65535 + 65535)": "65534", "(0 + 0)": "0", "(32767 + 1)": "32768",
		"(5 - 3)": "2", "(3 - 5)": "65534", "(0 - 1)": "65535", "(0 - 65535)": "1", "(32768 - 1)": "32767", "(32767 - 32768)": "65535", "(5 - 0)": "5", "(5 - 5)": "0",
		"(6 * 7)": "42", "(256 * 256)": "0", "(255 * 257)": "65535", "(65535 * 65535)": "1", "(5 * 0)": "0", "(1 * 5)": "5",
		"(12 & 10)": "8", "(65535 & 5)": "5", "(5 & 0)": "0", "(5 & 5)": "5", "(12 | 10)": "14", "(5 | 65535)": "65535", "(0 | 5)": "5", "(5 | 5)": "5", "(12 ^ 10)": "6", "(5 ^ 5)": "0", "(5 ^ 0)": "5",
		"(5 == 5)": "1", "(5 == 6)": "0", "(0 == 0)": "1", "(1 == 0)": "0", "(0 == 1)": "0", "(1 == 1)": "1", "(5 == 1)": "0", "(65535 == 65535)": "1",
		"(32767 < 32768)": "0", "(32768 < 32767)": "1", "(32767 < 32767)": "0", "(32768 < 32768)": "0", "(32768 < 65535)": "1", "(65535 < 0)": "1", "(0 < 65535)": "0", "(0 < 32767)": "1", "(1 < 2)": "1", "(2 < 1)": "0",
		"(32767 << 32768)": "1", "(32768 << 32767)": "0", "(32768 << 32768)": "0", "(0 << 65535)": "1", "(65535 << 0)": "0", "(0 << 0)": "0", "(1 << 2)": "1", "(2 << 1)": "0",
		"!0": "1", "!1": "0", "!2": "0", "!32768": "0", "!65535": "0", "!!0": "0", "!!5": "1", "!!!0": "1", "!!!5": "0",
	}
	for text, want := range rows {
		checkFoldText(t, text, want)
	}
	for _, p := range somePairs()[:2000] {
		for _, op := range opTexts {
			want := num(int(wantOf(op, uint16(p[0]), uint16(p[1]))))
			if got, ok := impl.TermFold(bin(num(p[0]), op, num(p[1]))); !ok || !alikeTerms(got, want) {
				t.Errorf("TermFold of %d %s %d = %s, %t", p[0], op, p[1], brieflyTerm(got), ok)
			}
		}
	}
}

func TestPromise49AWordAhead(t *testing.T) {
	for _, a := range []string{"x", "!x", "word[x]", "byte[5]", "(x - y)", "(y * word[x])"} {
		for _, op := range strings.Fields("+ * & | ^ ==") {
			checkFoldText(t, "(5 "+op+" "+a+")", "("+a+" "+op+" 5)")
			checkFoldText(t, "("+a+" "+op+" 5)", "("+a+" "+op+" 5)")
		}
		for _, op := range strings.Fields("- < <<") {
			for _, n := range []string{"5", "0", "1", "65535"} {
				checkFoldText(t, "("+n+" "+op+" "+a+")", "("+n+" "+op+" "+a+")")
			}
		}
	}
	rows := map[string]string{
		"(0 + x)": "x", "(0 | x)": "x", "(0 ^ x)": "x", "(1 * x)": "x", "(65535 & x)": "x", "(0 * x)": "0", "(0 & x)": "0", "(65535 | x)": "65535",
		"(0 == x)": "(x == 0)", "(1 == x)": "(x == 1)", "(1 + x)": "(x + 1)", "(65535 + x)": "(x + 65535)", "(65535 * x)": "(x * 65535)", "(1 & x)": "(x & 1)", "(1 | x)": "(x | 1)", "(65535 ^ x)": "(x ^ 65535)",
		"(0 == (a < b))": "!(a < b)", "(1 == (a < b))": "(a < b)", "(0 == !x)": "!!x", "(1 == !x)": "!x",
		"(0 * word[x])": "(word[x] * 0)", "(0 & byte[x])": "(byte[x] & 0)", "(65535 | word[x])": "(word[x] | 65535)",
		"(5 + (x + 3))": "(x + 8)", "(5 + (3 + x))": "(x + 8)", "(5 + (x - 3))": "(x + 2)", "(3 + (x - 3))": "x", "(5 - (x + 3))": "(5 - (x + 3))",
		// Two terms of which none is a word stay where they are.
		"(y + x)": "(y + x)", "(word[5] + x)": "(word[5] + x)", "(x * !y)": "(x * !y)",
	}
	for text, want := range rows {
		checkFoldText(t, text, want)
	}
}

func TestPromise49AWordThatDoesNothing(t *testing.T) {
	for _, a := range []string{"x", "!x", "word[x]", "byte[5]", "(x - y)", "(y * word[x])", "(x + 5)", "(x << 65535)"} {
		for _, end := range []string{"+ 0", "- 0", "| 0", "^ 0", "* 1", "& 65535"} {
			checkFoldText(t, "("+a+" "+end+")", a)
		}
		for _, end := range []string{"< 0", "< 1", "< 65535", "<< 1", "<< 65535", "& 1", "| 1", "^ 1", "^ 65535", "* 65535", "* 2", "& 65534", "| 65534", "& 32768"} {
			checkFoldText(t, "("+a+" "+end+")", "("+a+" "+end+")")
		}
	}
	checkFoldText(t, "((x - 0) + 0)", "x")
	checkFoldText(t, "((((x | 0) ^ 0) * 1) & 65535)", "x")
}

func TestPromise49AWordThatMakesAWord(t *testing.T) {
	for _, a := range []string{"x", "!x", "(x - y)", "((a < b) | !(x * 3))", "!!x", "(x == 5)"} {
		for _, end := range []string{"* 0", "& 0", "<< 0"} {
			checkFoldText(t, "("+a+" "+end+")", "0")
		}
		checkFoldText(t, "("+a+" | 65535)", "65535")
	}
	// What is not plain stays, at the top or deep within.
	for _, a := range []string{"word[x]", "byte[5]", "!word[0]", "(y * word[x])", "(byte[x] - y)", "!(x | (y == !byte[(a + b)]))", "byte[word[x]]"} {
		for _, end := range []string{"* 0", "& 0", "<< 0", "| 65535"} {
			checkFoldText(t, "("+a+" "+end+")", "("+a+" "+end+")")
		}
	}
	checkFoldText(t, "((word[x] * 0) + 0)", "(word[x] * 0)")
	checkFoldText(t, "((x * 0) + (y & 0))", "0")
}

func TestPromise49Truths(t *testing.T) {
	for _, a := range []string{"!x", "(x == y)", "(x < y)", "(x << y)", "!word[x]", "(word[x] < 5)", "(5 << byte[x])", "(x == 2)", "(x == 0)", "(x == 1)", "!(x + y)"} {
		checkFoldText(t, "("+a+" == 0)", "!"+a)
		checkFoldText(t, "("+a+" == 1)", a)
		checkFoldText(t, "!!"+a, a)
		checkFoldText(t, "!!!"+a, "!"+a)
		checkFoldText(t, "(!"+a+" == 0)", a)
		checkFoldText(t, "(("+a+" == 0) == 0)", a)
		checkFoldText(t, "!("+a+" == 0)", a)
		checkFoldText(t, "!("+a+" == 1)", "!"+a)
		for _, n := range []string{"2", "32768", "65535"} {
			checkFoldText(t, "("+a+" == "+n+")", "("+a+" == "+n+")")
		}
	}
	for _, a := range []string{"x", "word[x]", "byte[x]", "(x + y)", "(x & 1)", "(!x & !y)", "(!x | (a < b))", "(x ^ 1)"} {
		for _, text := range []string{"(" + a + " == 0)", "(" + a + " == 1)", "!" + a, "!!" + a} {
			checkFoldText(t, text, text)
		}
		checkFoldText(t, "!!!"+a, "!"+a)
		checkFoldText(t, "!!!!"+a, "!!"+a)
		checkFoldText(t, "(!"+a+" == 1)", "!"+a)
		checkFoldText(t, "(("+a+" == 0) == 0)", "!("+a+" == 0)")
	}
}

func TestPromise49WordsThatAreTakenAway(t *testing.T) {
	rows := map[string]string{
		"(x - 1)": "(x + 65535)", "(x - 65535)": "(x + 1)", "(x - 32768)": "(x + 32768)", "(x - 32767)": "(x + 32769)", "(x - 32769)": "(x + 32767)", "(x - 65534)": "(x + 2)", "(x - 0)": "x",
		"(word[x] - 5)": "(word[x] + 65531)", "((a < b) - 1)": "((a < b) + 65535)", "((x * 3) - 2)": "((x * 3) + 65534)",
		"((x + 3) - 3)": "x", "((x + 3) - 5)": "(x + 65534)", "((x - 3) + 3)": "x", "((x - 3) - 3)": "(x + 65530)", "((x - 3) - 65533)": "x", "((x - y) - 3)": "((x - y) + 65533)",
	}
	for text, want := range rows {
		checkFoldText(t, text, want)
	}
	for n := 1; n <= 65535; n++ {
		want := bin(named("x"), "+", num(65536-n))
		if got, ok := impl.TermFold(bin(named("x"), "-", num(n))); !ok || !alikeTerms(got, want) {
			t.Fatalf("TermFold(x - %d) = %s, %t", n, brieflyTerm(got), ok)
		}
	}
}

func TestPromise49WordsThatAreAdded(t *testing.T) {
	rows := map[string]string{
		"((x + 3) + 4)": "(x + 7)", "((x + 65535) + 1)": "x", "((x + 65535) + 65535)": "(x + 65534)", "((x + 32768) + 32768)": "x", "((x + 32768) + 32769)": "(x + 1)", "((x + 32767) + 32768)": "(x + 65535)",
		"(((x + 1) + 2) + 3)": "(x + 6)", "(3 + (2 + (1 + x)))": "(x + 6)", "((word[x] + 1) + 2)": "(word[x] + 3)", "((x + y) + 2)": "((x + y) + 2)", "((x + 1) + y)": "((x + 1) + y)", "(x + (y + 1))": "(x + (y + 1))",
		"((x + 1) + (y + 2))": "((x + 1) + (y + 2))", "((x - 1) + (2 + y))": "((x + 65535) + (y + 2))", "((x * 3) + 4)": "((x * 3) + 4)", "((x ^ 3) + 4)": "((x ^ 3) + 4)", "((x + 3) * 4)": "((x + 3) * 4)", "((x ^ 3) ^ 4)": "((x ^ 3) ^ 4)", "((x & 3) & 4)": "((x & 3) & 4)",
		"((x + 3) == 4)": "((x + 3) == 4)", "((x + 3) < 4)": "((x + 3) < 4)", "((3 - x) + 4)": "((3 - x) + 4)", "((x < 3) + 4)": "((x < 3) + 4)",
	}
	for text, want := range rows {
		checkFoldText(t, text, want)
	}
	for _, p := range somePairs()[:1500] {
		x := bin(bin(named("x"), "+", num(p[0])), "+", num(p[1]))
		want := bin(named("x"), "+", num((p[0]+p[1])%65536))
		if want.Kids[1].Num == 0 {
			want = named("x")
		}
		if got, ok := impl.TermFold(x); !ok || !alikeTerms(got, want) {
			t.Errorf("TermFold(%s) = %s, %t", wantText(x), brieflyTerm(got), ok)
		}
	}
}

// sameMakes has what a plain term is with each operator and itself; A is the term.
func sameMakes() map[string]string {
	return map[string]string{"-": "0", "^": "0", "<": "0", "<<": "0", "==": "1", "&": "A", "|": "A", "+": "(A + A)", "*": "(A * A)"}
}

func TestPromise49SameTerms(t *testing.T) {
	for op, want := range sameMakes() {
		// A word behind a part of what stands there twice is no word behind it.
		for _, a := range []string{"x", "!x", "(x - y)", "(x + 3)", "(x & 1)", "(x == 0)", "!!(x * (y | !3))"} {
			simple := wantText(wantFold(termOf(a)))
			checkFoldText(t, "("+a+" "+op+" "+a+")", strings.ReplaceAll(want, "A", simple))
		}
		for _, a := range []string{"word[x]", "byte[5]", "!word[0]", "(y * word[x])", "(byte[x] - y)", "(word[x] + 3)", "!(x | (y == !byte[(a + b)]))"} {
			checkFoldText(t, "("+a+" "+op+" "+a+")", "("+a+" "+op+" "+a+")")
		}
		// Two same words are two words.
		for _, n := range []int{0, 1, 5, 32768, 65535} {
			word := strconv.Itoa(n)
			checkFoldText(t, "("+word+" "+op+" "+word+")", strconv.Itoa(int(wantOf(op, uint16(n), uint16(n)))))
		}
	}
}

func TestPromise49SameTermsOnceSimple(t *testing.T) {
	rows := map[string]string{
		"((x + 0) - x)": "0", "((x + 3) - (3 + x))": "0", "((x - 3) == (x + 65533))": "1", "(x ^ (x & 65535))": "0", "(!!(a < b) & (a < b))": "(a < b)", "((0 | x) | (x * 1))": "x", "((x - x) - (y - y))": "0", "((x == x) < (y == y))": "0",
		"((x - x) - 5)": "65531", "((x - x) + x)": "x", "((x & x) - 5)": "(x + 65531)", "((x | x) | 5)": "(x | 5)", "((x == x) + 5)": "6", "((x < x) == 0)": "1", "!(x - x)": "1", "!(x == x)": "0",
		"((word[x] + 0) - word[x])": "(word[x] - word[x])", "((x - x) * word[x])": "(word[x] * 0)", "word[(x - x)]": "word[0]",
	}
	for text, want := range rows {
		checkFoldText(t, text, want)
	}
}

// Parts that are not the same in just one place are no same parts.
func TestPromise49NearlySameTerms(t *testing.T) {
	base := "((a & 6) < !(b ^ (a + 7)))"
	near := []string{
		"((b & 6) < !(b ^ (a + 7)))", "((a & 5) < !(b ^ (a + 7)))", "((a | 6) < !(b ^ (a + 7)))", "((a & 6) << !(b ^ (a + 7)))", "((a & 6) == !(b ^ (a + 7)))", "((a & 6) < !(a ^ (a + 7)))", "((a & 6) < !(b ^ (b + 7)))",
		"((a & 6) < !(b ^ (a + 8)))", "((a & 6) < !(b ^ (a * 7)))", "((a & 6) < !(b | (a + 7)))", "((a & 6) < (b ^ (a + 7)))", "((a & 6) < !!(b ^ (a + 7)))", "(!(b ^ (a + 7)) < (a & 6))", "((a & 6) < !((a + 7) ^ b))", "((a & b) < !(b ^ (a + 7)))", "((a & 6) < !(b ^ (a + b)))",
		"(6 < !(b ^ (a + 7)))", "((a & 6) < !b)", "((a & 6) < !(c ^ (a + 7)))", "((aa & 6) < !(b ^ (a + 7)))", "!((a & 6) < !(b ^ (a + 7)))",
	}
	for op, want := range sameMakes() {
		checkFoldText(t, "("+base+" "+op+" "+base+")", strings.ReplaceAll(want, "A", base))
		for _, other := range near {
			for _, text := range []string{"(" + base + " " + op + " " + other + ")", "(" + other + " " + op + " " + base + ")"} {
				checkFoldText(t, text, text)
			}
		}
	}
	for _, text := range []string{"(a - b)", "(a - !a)", "((a + 1) - (a + 2))", "((a + 1) - (b + 1))", "((a + b) - (b + a))", "((a + 1) ^ a)", "(a == (a & 1))", "(aa - a)", "(!a & a)", "(!a | !b)"} {
		checkFoldText(t, text, text)
	}
}

// Of two rows that are for a term the first one counts, and one may be for what another one made.
func TestPromise49OneRuleBehindAnother(t *testing.T) {
	rows := map[string]string{
		"(2 * (3 + 4))": "14", "((1 + 2) * (3 + 4))": "21", "!(3 - 3)": "1", "!!(3 - 3)": "0", "word[(1 + 2)]": "word[3]", "byte[!!(a < b)]": "byte[(a < b)]", "word[word[(x - 2)]]": "word[word[(x + 65534)]]",
		"(x * (3 - 2))": "x", "(x * (3 - 3))": "0", "(x & (0 - 1))": "x", "(x | (0 - 1))": "65535", "((x * 0) + y)": "y", "(y - (x * 0))": "y", "((y == y) * x)": "x", "((y == y) == (a < b))": "(a < b)", "((y - y) == (a < b))": "!(a < b)", "((y - y) == !(a < b))": "(a < b)",
		"(word[x] * (y - y))": "(word[x] * 0)", "(word[(x & 0)] & 0)": "(word[0] & 0)", "((x + 0) + 0)": "x", "((x + 3) + 0)": "(x + 3)", "((x + 3) - 0)": "(x + 3)", "((x | 0) - 0)": "x", "(0 + (0 + (0 + x)))": "x",
		"(((a < b) == 0) == 0)": "(a < b)", "(((a < b) == 0) == 1)": "!(a < b)", "((!!x == 0) == 0)": "!!x", "(!x == 0)": "!!x", "(!!x == 0)": "!x", "!(!x == 0)": "!x", "(0 == (0 == (0 == x)))": "(x == 0)", "(0 == (0 == x))": "!(x == 0)",
		"((x + 1) - (x + 1))": "0", "(((x + 1) + 2) - (x + 3))": "0", "((x << x) + (y << 0))": "0", "(((x ^ x) | 65535) & y)": "y", "((x == x) - (y == y))": "0", "!((x < x) + (5 == 5))": "0", "(byte[(x - x)] + (3 - 4))": "(byte[0] + 65535)",
		"((x + word[0]) * ((3 + 4) - 7))": "((x + word[0]) * 0)", "((3 < 4) == !x)": "!x", "((4 < 3) == !x)": "!!x", "(5 - (3 + x))": "(5 - (x + 3))", "(((x - 1) - 1) - 65534)": "x",
		"x": "x", "0": "0", "65535": "65535", "word[x]": "word[x]", "byte[65535]": "byte[65535]", "!x": "!x",
	}
	for text, want := range rows {
		checkFoldText(t, text, want)
	}
}

func TestPromise49AllSmallTerms(t *testing.T) {
	changed := 0
	for _, x := range smallTerms() {
		if got := checkFold(t, x); !alikeTerms(got, x) {
			changed++
		}
	}
	if changed < 10000 {
		t.Errorf("just %d terms became simpler", changed)
	}
}

func TestPromise49SameAsTheTable(t *testing.T) {
	changed := 0
	for _, x := range termsToFold() {
		if got := checkFold(t, x); !alikeTerms(got, x) {
			changed++
		}
	}
	if changed < 3000 {
		t.Errorf("just %d terms became simpler", changed)
	}
}

// checkSameValue checks that a term and what is simpler have the same value, or both ask for memory that there is not; it tells whether there is a value.
func checkSameValue(t *testing.T, x impl.Term, got impl.Term, s scope) bool {
	t.Helper()
	want, is := s.want(x)
	if !is {
		checkNoValue(t, x, s)
		checkNoValue(t, got, s)
		return false
	}
	checkValue(t, x, s, want)
	checkValue(t, got, s, want)
	return true
}

func TestPromise49TheSameValue(t *testing.T) {
	with, without := 0, 0
	all := scopes()
	for _, x := range termsToFold() {
		got, ok := impl.TermFold(x)
		if !ok || !impl.TermOk(got) {
			t.Errorf("TermFold(%s) = %s, %t", wantText(x), brieflyTerm(got), ok)
			continue
		}
		for _, s := range all {
			if checkSameValue(t, x, got, s) {
				with++
			} else if !alikeTerms(x, got) {
				without++
			}
		}
	}
	if with < 20000 || without < 3000 {
		t.Errorf("%d values, and %d without", with, without)
	}
}

func TestPromise49MemoryIsAskedForStill(t *testing.T) {
	full := scope{mem: make([]int, 64)}
	for _, a := range []string{"word[x]", "byte[x]", "!byte[x]", "(y + word[x])", "((word[x] == 0) < y)", "byte[byte[x]]"} {
		for _, text := range []string{"(A * 0)", "(0 * A)", "(A & 0)", "(A << 0)", "(A | 65535)", "(A - A)", "(A ^ A)", "(A < A)", "(A << A)", "(A == A)", "(A & A)", "(A | A)", "((A - A) * 0)", "!!(A == A)", "(A - 0)", "(A + 0)", "!!A", "((A + 1) - 1)", "(word[(A & 0)] & 0)"} {
			x := termOf(strings.ReplaceAll(text, "A", a))
			got := checkFold(t, x)
			checkNoValue(t, got, scope{})
			if !checkSameValue(t, x, got, full) {
				t.Errorf("%s has no value", wantText(x))
			}
			// The same holds where just the address is too far.
			checkSameValue(t, x, got, scope{vars: []impl.Var{{Name: "x", Num: 64}}, mem: full.mem})
			checkSameValue(t, x, got, scope{vars: []impl.Var{{Name: "x", Num: 63}}, mem: full.mem})
		}
	}
}

func TestPromise49LargestTerms(t *testing.T) {
	for _, x := range largestTerms() {
		checkFold(t, x)
	}
	for high := 1; high <= 16; high++ {
		for _, last := range []impl.Term{num(0), num(1), named("x"), bin(named("x"), "<", named("y"))} {
			for _, of := range []func(a impl.Term) impl.Term{not, wordAt, byteAt, leansLeft, leansRight} {
				x := tall(high, of, last)
				if wantTerm(x) {
					checkFold(t, x)
				} else {
					checkNoFold(t, x)
				}
			}
		}
	}
	// 13 are taken away, one after the other.
	if got, ok := impl.TermFold(tall(14, leansLeft, named("x"))); !ok || impl.TermText(got) != "(x + 65523)" {
		t.Errorf("TermFold = %s, %t", brieflyTerm(got), ok)
	}
	for count := 1; count <= 130; count++ {
		if count > 60 {
			checkNoFold(t, sized(count))
			continue
		}
		checkFold(t, sized(count))
	}
	half := bin(sized(28), "-", num(0))
	if got, ok := impl.TermFold(bin(half, "^", sized(29))); !ok || !alikeTerms(got, bin(sized(28), "^", sized(29))) {
		t.Errorf("TermFold of 60 terms = %s, %t", brieflyTerm(got), ok)
	}
	if got, ok := impl.TermFold(bin(sized(29), "-", sized(29))); !ok || !alikeTerms(got, num(0)) {
		t.Errorf("TermFold of 59 terms = %s, %t", brieflyTerm(got), ok)
	}
}

func TestPromise49NoTerms(t *testing.T) {
	for _, x := range append(badTerms(), endlessTerms()...) {
		checkNoFold(t, x)
	}
	// A part that is none counts also where it would go.
	for _, bad := range []impl.Term{{Kind: 6}, num(-1), num(65536), named("word"), named(""), {Kind: 3}, bin(num(1), "%", num(1))} {
		for _, x := range []impl.Term{bin(bad, "*", num(0)), bin(num(0), "&", bad), bin(bad, "-", bad), bin(bad, "==", bad), not(not(bad)), bin(named("x"), "+", bad)} {
			checkNoFold(t, x)
		}
	}
}

// Promise 50: what is simplest is not simpler.

func TestPromise50NotSimplerStill(t *testing.T) {
	for _, x := range append(termsToFold(), smallTerms()...) {
		once, _ := impl.TermFold(x)
		twice, ok := impl.TermFold(once)
		if !ok || !alikeTerms(twice, once) || !impl.TermSame(twice, once) {
			t.Errorf("TermFold(%s) = %s, of which it is %s, %t", wantText(x), brieflyTerm(once), brieflyTerm(twice), ok)
		}
	}
}

// No row is for what is simplest, and not for any part of it either.
func TestPromise50NoRuleIsForIt(t *testing.T) {
	for _, x := range termsToFold() {
		got, _ := impl.TermFold(x)
		if step, is := wantStep(got); is {
			t.Errorf("TermFold(%s) = %s, which is %s", wantText(x), wantText(got), wantText(step))
		}
	}
}

func TestPromise50NoLarger(t *testing.T) {
	for _, x := range termsToFold() {
		got, _ := impl.TermFold(x)
		_, count := putAt(x, -1, x)
		if _, now := putAt(got, -1, got); now > count {
			t.Errorf("TermFold(%s) = %s", wantText(x), wantText(got))
		}
	}
}

// Promise 51: the term of a condition is 1 just where it holds.

func TestPromise51Values(t *testing.T) {
	a, b := named("a"), named("b")
	for cond, want := range []string{"(a == b)", "!(a == b)", "(a < b)", "!(a < b)", "(a << b)", "!(a << b)"} {
		checkCond(t, cond, a, b, want)
		checkCond(t, cond, b, a, strings.NewReplacer("a", "b", "b", "a").Replace(want))
		// It is not made simpler.
		checkCond(t, cond, num(5), num(5), strings.NewReplacer("a", "5", "b", "5").Replace(want))
		checkCond(t, cond, num(0), not(a), strings.NewReplacer("a", "0", "b", "!a").Replace(want))
		checkCond(t, cond, bin(a, "==", b), num(0), strings.NewReplacer("a", "(a == b)", "b", "0").Replace(want))
		checkCond(t, cond, wordAt(a), byteAt(num(3)), strings.NewReplacer("a", "word[a]", "b", "byte[3]").Replace(want))
	}
}

func TestPromise51JustWhereItHolds(t *testing.T) {
	for _, p := range somePairs()[:2500] {
		s := scope{vars: []impl.Var{{Name: "a", Num: p[0]}, {Name: "b", Num: p[1]}}, mem: []int{p[0] % 256, p[0] / 256, p[1] % 256, p[1] / 256}}
		f := impl.FlagsOf(p[0], p[1])
		for cond := 0; cond <= 5; cond++ {
			want := len(trues([]bool{impl.CondHolds(cond, f)}))
			for _, parts := range [][2]impl.Term{{num(p[0]), num(p[1])}, {named("a"), named("b")}, {wordAt(num(0)), wordAt(num(2))}} {
				x, ok := impl.CondTerm(cond, parts[0], parts[1])
				if !ok {
					t.Errorf("CondTerm(%d, %s, %s) = false", cond, wantText(parts[0]), wantText(parts[1]))
				}
				checkValue(t, x, s, want)
				simpler, _ := impl.TermFold(x)
				checkValue(t, simpler, s, want)
			}
		}
	}
}

func TestPromise51OfAllTerms(t *testing.T) {
	l := &lot{state: 51}
	terms, all := someTerms(), scopes()
	with, without := 0, 0
	for range 6000 {
		cond, a, b, s := l.next(6), terms[l.next(len(terms))], terms[l.next(len(terms))], all[l.next(len(all))]
		x, ok := impl.CondTerm(cond, a, b)
		if !ok {
			continue
		}
		v, isA := s.want(a)
		w, isB := s.want(b)
		if !isA || !isB {
			without++
			checkNoValue(t, x, s)
			continue
		}
		with++
		checkValue(t, x, s, len(trues([]bool{impl.CondHolds(cond, impl.FlagsOf(v, w))})))
	}
	if with < 500 || without < 500 {
		t.Errorf("%d values, and %d without", with, without)
	}
}

func TestPromise51AsLargeAsThereMayBe(t *testing.T) {
	for first := 1; first <= 61; first++ {
		for second := 1; second <= 61; second++ {
			a, b := sized(first), sized(second)
			for cond := 0; cond <= 5; cond++ {
				got, ok := impl.CondTerm(cond, a, b)
				if is := first+second+1+cond%2 <= 60; ok != is || !ok && !isNoTerm(got) || ok && !impl.TermOk(got) {
					t.Errorf("CondTerm(%d) of %d terms and %d = %s, %t", cond, first, second, brieflyTerm(got), ok)
				}
			}
		}
	}
	for first := 1; first <= 15; first++ {
		for second := 1; second <= 15; second++ {
			for k, a := range tallOnes(first, num(0)) {
				b := tallOnes(second, named("v"))[k]
				for cond := 0; cond <= 5; cond++ {
					want := bin(a, []string{"==", "<", "<<"}[cond/2], b)
					if cond%2 == 1 {
						want = not(want)
					}
					got, ok := impl.CondTerm(cond, a, b)
					// Of these, just those that lean on a number have many terms, and never more than there may be.
					if is := max(first, second)+1+cond%2 <= 14; ok != is || ok && !alikeTerms(got, want) || !ok && !isNoTerm(got) {
						t.Errorf("CondTerm(%d) of %d high and %d = %s, %t", cond, first, second, brieflyTerm(got), ok)
					}
				}
			}
		}
	}
}

func TestPromise51NoTerms(t *testing.T) {
	good := []impl.Term{num(0), named("a"), bin(named("a"), "<", wordAt(num(1)))}
	for _, bad := range append(badTerms(), endlessTerms()...) {
		for cond := 0; cond <= 5; cond++ {
			for _, x := range good {
				checkNoCond(t, cond, bad, x)
				checkNoCond(t, cond, x, bad)
			}
			checkNoCond(t, cond, bad, bad)
		}
	}
}

func TestPromise51NoConditions(t *testing.T) {
	terms := []impl.Term{num(0), num(5), named("a"), bin(named("a"), "==", num(1)), wordAt(num(3))}
	for _, cond := range noConditions {
		for _, a := range terms {
			for _, b := range terms {
				checkNoCond(t, cond, a, b)
			}
			checkNoCond(t, cond, a, sized(61))
			checkNoCond(t, cond, sized(61), a)
		}
	}
	for cond := -300; cond <= 300; cond++ {
		if _, ok := impl.CondTerm(cond, num(1), named("a")); ok != between(cond, 0, 5) {
			t.Errorf("CondTerm(%d) = %t", cond, ok)
		}
	}
}

// Promise 95: whatever term is told, it counts as what it is more simply.

// valued draws variables and memory.
func (l *lot) valued() scope {
	s := scope{mem: codeOf(64)[:l.oneOf(0, 1, 2, 3, 4, 9, 63, 64, 64, 64)]}
	for range l.next(5) {
		n := l.oneOf(0, 1, 2, 3, 62, 63, 32767, 32768, 65535, l.next(65536))
		s.vars = append(s.vars, impl.Var{Name: []string{"a", "b", "r0", "x9"}[l.next(4)], Num: n})
	}
	return s
}

// told draws the text of a term, each part with its own letters; some are of no term.
func (l *lot) told(high int) string {
	if high == 1 || l.next(8) == 0 {
		return strings.Fields("a b r0 x9 0 1 2 32768 65535 65536 byte 01")[l.next(l.oneOf(9, 9, 9, 12))]
	}
	a := l.told(high - 1)
	switch l.next(6) {
	case 0, 1:
		return "!" + a
	case 2:
		return "(" + a + " " + opTexts[l.next(9)] + " " + a + ")"
	case 3:
		return "(" + a + " " + opTexts[l.next(9)] + " " + []string{"0", "1", "65535"}[l.next(3)] + ")"
	}
	return "(" + a + " " + opTexts[l.next(9)] + " " + l.told(high-1) + ")"
}

func TestPromise95PlainTerms(t *testing.T) {
	l := &lot{state: 95}
	taken, refused := 0, 0
	for range 6000 {
		text := l.told(1 + l.next(7))
		x, ok := impl.TermRead(text)
		got, is := impl.TermFold(x)
		if !ok {
			refused++
			checkNoTerm(t, text)
			continue
		}
		taken++
		if !is || !wantPlain(got) {
			t.Errorf("TermFold(%s) = %s, %t", text, brieflyTerm(got), is)
		}
		for range 3 {
			if !checkSameValue(t, x, got, l.valued()) {
				t.Errorf("%s has no value", text)
			}
		}
	}
	if taken < 3000 || refused < 300 {
		t.Errorf("%d texts of terms, and %d others", taken, refused)
	}
}

func TestPromise95OtherTerms(t *testing.T) {
	l := &lot{state: 59}
	with, without := 0, 0
	for _, x := range termsToFold() {
		got, ok := impl.TermFold(x)
		if !ok || wantPlain(x) != wantPlain(got) {
			t.Errorf("TermFold(%s) = %s, %t", wantText(x), brieflyTerm(got), ok)
		}
		for range 5 {
			if checkSameValue(t, x, got, l.valued()) {
				with++
			} else {
				without++
			}
		}
	}
	if with < 10000 || without < 1000 {
		t.Errorf("%d values, and %d without", with, without)
	}
}

// What is returned is new, and what is told stays.

func TestTermFoldSharesNothing(t *testing.T) {
	for _, made := range slices.Concat(goodTerms(), foldableTerms(2000), drawnTerms(200)) {
		x := guardedTerm(made)
		want := wantFold(made)
		first, _ := impl.TermFold(x)
		second, _ := impl.TermFold(x)
		checkApart(t, "TermFold of "+wantText(made), x, first, second)
		spoilTerm(first)
		if !alikeTerms(second, want) || !alikeTerms(x, made) || !isGuardedTerm(x) {
			t.Errorf("TermFold(%s) shares memory", wantText(made))
		}
		spoilTerm(x)
		if !alikeTerms(second, want) {
			t.Errorf("TermFold of %s shares memory with what it was made of", wantText(made))
		}
	}
}

// The parts of a term may share memory, but not those of what is returned.
func TestTermFoldOfPartsInCommon(t *testing.T) {
	kids := []impl.Term{named("a"), not(named("b"))}
	rows := map[string]impl.Term{
		"((a - !b) * (a + !b))": bin(impl.Term{Kind: 2, Text: "-", Kids: kids}, "*", impl.Term{Kind: 2, Text: "+", Kids: kids}),
		"((a * !b) + (a * !b))": bin(impl.Term{Kind: 2, Text: "*", Kids: kids}, "+", impl.Term{Kind: 2, Text: "*", Kids: kids}),
		"(a * !b)":              bin(impl.Term{Kind: 2, Text: "*", Kids: kids}, "&", impl.Term{Kind: 2, Text: "*", Kids: kids}),
		"(!b + 5)":              bin(num(5), "+", impl.Term{Kind: 3, Kids: kids[1].Kids}),
		"!!a":                   not(not(not(not(kids[0])))),
	}
	for want, x := range rows {
		text := wantText(x)
		got, ok := impl.TermFold(x)
		if !ok || !alikeTerms(got, termOf(want)) {
			t.Errorf("TermFold(%s) = %s, %t, not %s", text, brieflyTerm(got), ok, want)
		}
		checkApart(t, "TermFold of "+text, got)
		told := cellsOf(x)
		for _, cell := range cellsOf(got) {
			if slices.Contains(told, cell) {
				t.Errorf("TermFold of %s shares memory with it", text)
			}
		}
		if wantText(x) != text || wantText(kids[0]) != "a" || wantText(kids[1]) != "!b" {
			t.Errorf("TermFold changed %s to %s", text, wantText(x))
		}
	}
}

func TestCondTermSharesNothing(t *testing.T) {
	l := &lot{state: 15}
	terms := someTerms()
	made := 0
	for range 3000 {
		cond, a, b := l.next(6), guardedTerm(terms[l.next(len(terms))]), guardedTerm(terms[l.next(len(terms))])
		first, ok := impl.CondTerm(cond, a, b)
		second, _ := impl.CondTerm(cond, a, b)
		if !ok {
			continue
		}
		made++
		want := copiedTerm(second)
		checkApart(t, "CondTerm of "+wantText(a)+" and "+wantText(b), a, b, first, second)
		spoilTerm(first)
		if !alikeTerms(second, want) || !isGuardedTerm(a) || !isGuardedTerm(b) {
			t.Errorf("CondTerm(%d, %s, %s) shares memory", cond, wantText(a), wantText(b))
		}
		spoilTerm(a)
		spoilTerm(b)
		if !alikeTerms(second, want) {
			t.Errorf("CondTerm of %s shares memory with what it was made of", wantText(want))
		}
	}
	if made < 1000 {
		t.Errorf("just %d terms of conditions", made)
	}
}

func TestCondTermOfOneTerm(t *testing.T) {
	for _, made := range drawnTerms(300) {
		x := guardedTerm(made)
		for cond := 0; cond <= 5; cond++ {
			first, ok := impl.CondTerm(cond, x, x)
			second, _ := impl.CondTerm(cond, x, x)
			want := bin(made, []string{"==", "<", "<<"}[cond/2], made)
			if cond%2 == 1 {
				want = not(want)
			}
			if ok != wantTerm(want) || ok && (!alikeTerms(first, want) || !alikeTerms(second, want)) {
				t.Errorf("CondTerm(%d) of %s twice = %s, %t", cond, wantText(made), brieflyTerm(first), ok)
			}
			checkApart(t, "CondTerm of "+wantText(made)+" twice", x, first, second)
		}
		if !alikeTerms(x, made) || !isGuardedTerm(x) {
			t.Errorf("CondTerm changed %s", wantText(made))
		}
	}
}

func TestFoldsChangeNoTerms(t *testing.T) {
	other := guardedTerm(bin(named("a"), "+", wordAt(num(0))))
	for k, x := range slices.Concat(goodTerms(), foldableTerms(500), badForms(), tooLargeTerms()) {
		if len(x.Kids) > 3 {
			continue
		}
		guarded := guardedTerm(x)
		for range 2 {
			if _, ok := impl.TermFold(guarded); ok != wantTerm(x) {
				t.Errorf("TermFold of %d = %t", k, ok)
			}
			for cond := -1; cond <= 6; cond++ {
				impl.CondTerm(cond, guarded, other)
				impl.CondTerm(cond, other, guarded)
				impl.CondTerm(cond, guarded, guarded)
			}
		}
		if !alikeTerms(guarded, x) || !isGuardedTerm(guarded) || !isGuardedTerm(other) || wantText(other) != "(a + word[0])" {
			t.Errorf("term %d was changed", k)
		}
	}
}
