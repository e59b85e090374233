package tests

import (
	"fmt"
	"math"
	"regexp"
	"slices"
	"strconv"
	"strings"
	"testing"

	"loop.example/liftedcode/impl"
)

// The kinds are told by their numbers, so that other ones would not go unseen.

func setNode(name string, term string) impl.Node {
	return impl.Node{Kind: 0, Name: name, Terms: termsOf(term)}
}

func outNode(term string) impl.Node {
	return impl.Node{Kind: 3, Terms: termsOf(term)}
}

// callNode has what it is called with, and what is set, with spaces between: so the terms must have none.
func callNode(names string, proc string, terms string) impl.Node {
	return impl.Node{Kind: 5, Name: proc, Terms: termsOf(strings.Fields(terms)...), Names: strings.Fields(names)}
}

func ifNode(test string, body []impl.Node, others []impl.Node) impl.Node {
	return impl.Node{Kind: 6, Terms: termsOf(test), Body: body, Else: others}
}

func loopNode(label string, body ...impl.Node) impl.Node {
	return impl.Node{Kind: 7, Name: label, Body: body}
}

func blockNode(label string, body ...impl.Node) impl.Node {
	return impl.Node{Kind: 8, Name: label, Body: body}
}

func leaveNode(label string) impl.Node {
	return impl.Node{Kind: 9, Name: label}
}

func againNode(label string) impl.Node {
	return impl.Node{Kind: 10, Name: label}
}

var (
	backNode = impl.Node{Kind: 11}
	haltNode = impl.Node{Kind: 12}
)

func nodes(list ...impl.Node) []impl.Node {
	return list
}

func termsOf(texts ...string) []impl.Term {
	var list []impl.Term
	for _, text := range texts {
		list = append(list, termOf(text))
	}
	return list
}

func procOf(name string, takes string, gives string, body ...impl.Node) impl.Proc {
	return impl.Proc{Name: name, Takes: strings.Fields(takes), Gives: strings.Fields(gives), Body: body}
}

// mainOf is a program of one procedure that takes and gives nothing.
func mainOf(body ...impl.Node) impl.Program {
	return impl.Program{Procs: []impl.Proc{procOf("main", "", "", body...)}}
}

// shownProgram is a program with its text and its size, written out by hand from chapter 11.
type shownProgram struct {
	text    string
	size    int
	program impl.Program
}

func shownProgramsOfNodes() []shownProgram {
	return []shownProgram{
		{"room 0\nproc main() () {\n}\n", 0, mainOf()},
		{"room 0\nproc main() () {\n  x = 5\n  a = x\n  x = (x + word[a])\n}\n", 3, mainOf(setNode("x", "5"), setNode("a", "x"), setNode("x", "(x + word[a])"))},
		{"room 0\nproc main() () {\n  word[0] = 5\n  word[(p + 2)] = (a == b)\n}\n", 2, mainOf(impl.Node{Kind: 1, Terms: termsOf("0", "5")}, impl.Node{Kind: 1, Terms: termsOf("(p + 2)", "(a == b)")})},
		{"room 0\nproc main() () {\n  byte[0] = 5\n  byte[byte[x]] = word[y]\n}\n", 2, mainOf(impl.Node{Kind: 2, Terms: termsOf("0", "5")}, impl.Node{Kind: 2, Terms: termsOf("byte[x]", "word[y]")})},
		{"room 0\nproc main() () {\n  out 65535\n  out !x\n  out (a - b)\n  out word[0]\n}\n", 4, mainOf(outNode("65535"), outNode("!x"), outNode("(a - b)"), outNode("word[0]"))},
		{"room 0\nproc main() () {\n  in x\n  in abcdefgh\n}\n", 2, mainOf(impl.Node{Kind: 4, Name: "x"}, impl.Node{Kind: 4, Name: "abcdefgh"})},
		{"room 0\nproc main() () {\n   = main()\n}\n", 1, mainOf(callNode("", "main", ""))},
		{"room 0\nproc main() () {\n  back\n  halt\n  halt\n  back\n}\n", 4, mainOf(backNode, haltNode, haltNode, backNode)},
		{"room 0\nproc main() () {\n  if x {\n  }\n}\n", 1, mainOf(ifNode("x", nil, nil))},
		{"room 0\nproc main() () {\n  if (x < 3) {\n    back\n  }\n}\n", 2, mainOf(ifNode("(x < 3)", nodes(backNode), nil))},
		{"room 0\nproc main() () {\n  if !0 {\n  } else {\n    back\n  }\n}\n", 2, mainOf(ifNode("!0", nil, nodes(backNode)))},
		{"room 0\nproc main() () {\n  if 1 {\n    out 1\n    back\n  } else {\n    out 2\n    halt\n  }\n  out 3\n}\n", 6, mainOf(ifNode("1", nodes(outNode("1"), backNode), nodes(outNode("2"), haltNode)), outNode("3"))},
		{"room 0\nproc main() () {\n  loop k {\n  }\n  block k {\n  }\n}\n", 2, mainOf(loopNode("k"), blockNode("k"))},
		{"room 0\nproc main() () {\n  loop k {\n    leave k\n    again k\n  }\n}\n", 3, mainOf(loopNode("k", leaveNode("k"), againNode("k")))},
		{"room 0\nproc main() () {\n  block k {\n    loop main {\n      again main\n      leave k\n    }\n    leave k\n  }\n}\n", 5, mainOf(blockNode("k", loopNode("main", againNode("main"), leaveNode("k")), leaveNode("k")))},
		{"room 0\nproc main() () {\n  if a {\n    if b {\n      if c {\n      }\n    } else {\n      if d {\n      } else {\n        halt\n      }\n    }\n  }\n}\n", 5, mainOf(ifNode("a", nodes(ifNode("b", nodes(ifNode("c", nil, nil)), nodes(ifNode("d", nil, nodes(haltNode))))), nil))},
	}
}

func shownProgramsOfProcs() []shownProgram {
	two := []impl.Proc{
		procOf("f", "a", "b", setNode("b", "a")),
		procOf("g", "b a", "a b", callNode("b", "f", "a"), callNode("a b", "g", "b 7"), callNode("", "h", "")),
	}
	return []shownProgram{
		{"room 64 0 1 255\nproc m() () {\n}\n", 0, impl.Program{Procs: []impl.Proc{procOf("m", "", "")}, Room: 64, Data: []int{0, 1, 255}}},
		{"room 1 9\nproc f0(x) () {\n  back\n}\n", 1, impl.Program{Procs: []impl.Proc{procOf("f0", "x", "", backNode)}, Room: 1, Data: []int{9}}},
		{"room 10\nproc abcdefgh() (room) {\n}\n", 0, impl.Program{Procs: []impl.Proc{procOf("abcdefgh", "", "room")}, Room: 10}},
		{
			"room 0\nproc f(a) (b) {\n  b = a\n}\nproc g(b, a) (a, b) {\n  b = f(a)\n  a, b = g(b, 7)\n   = h()\n}\nproc h() () {\n}\n", 4,
			impl.Program{Procs: []impl.Proc{two[0], two[1], procOf("h", "", "")}},
		},
		{
			"room 2\nproc x(x, x1, x2, x3, x4, x5, x6, x7) (x, x1, x2, x3, x4, x5, x6, x7) {\n  x, a, b, c, d, e, f, g = x(x, x, (x + 1), word[x], 0, 1, 2, !3)\n}\n", 1,
			impl.Program{Room: 2, Procs: []impl.Proc{procOf("x", "x x1 x2 x3 x4 x5 x6 x7", "x x1 x2 x3 x4 x5 x6 x7", impl.Node{
				Kind: 5, Name: "x", Names: strings.Fields("x a b c d e f g"), Terms: termsOf("x", "x", "(x + 1)", "word[x]", "0", "1", "2", "!3"),
			})}},
		},
		{
			"room 4 1 2\nproc main(a) (b) {\n  b = (a + 1)\n  loop k {\n    if (b == 3) {\n      leave k\n    } else {\n      b = (b + 1)\n    }\n  }\n  out b\n}\n", 6,
			impl.Program{Room: 4, Data: []int{1, 2}, Procs: []impl.Proc{procOf("main", "a", "b",
				setNode("b", "(a + 1)"), loopNode("k", ifNode("(b == 3)", nodes(leaveNode("k")), nodes(setNode("b", "(b + 1)")))), outNode("b"))}},
		},
		{
			"room 3 7\nproc k(k) (k) {\n  loop k {\n    k = k(k)\n    again k\n  }\n}\n", 3,
			impl.Program{Room: 3, Data: []int{7}, Procs: []impl.Proc{procOf("k", "k", "k", loopNode("k", callNode("k", "k", "k"), againNode("k")))}},
		},
	}
}

func shownPrograms() []shownProgram {
	return append(shownProgramsOfNodes(), shownProgramsOfProcs()...)
}

// A second reading of chapter 11: whether p is a program level by level, and texts line by line.

// nodeRows has the table of chapter 11: whether there is a name, how many terms, whether there are other names, and how many bodies.
var nodeRows = [13]struct {
	named  bool
	terms  int
	names  bool
	bodies int
}{
	{true, 1, false, 0}, {false, 2, false, 0}, {false, 2, false, 0}, {false, 1, false, 0}, {true, 0, false, 0}, {true, 8, true, 0},
	{false, 1, false, 2}, {true, 0, false, 1}, {true, 0, false, 1}, {true, 0, false, 0}, {true, 0, false, 0}, {false, 0, false, 0}, {false, 0, false, 0},
}

func wantVariables(list []string) bool {
	seen := map[string]bool{}
	for _, name := range list {
		if len(seen) == 8 || seen[name] || !wantFreeName(name) {
			return false
		}
		seen[name] = true
	}
	return true
}

// wantNode tells whether a node has what its kind has, whatever stands in its bodies.
func wantNode(n impl.Node) bool {
	if !between(n.Kind, 0, 12) {
		return false
	}
	row := nodeRows[n.Kind]
	if row.named != (n.Name != "") || row.named && !wantFreeName(n.Name) || len(n.Terms) > row.terms || n.Kind != 5 && len(n.Terms) < row.terms {
		return false
	}
	for _, x := range n.Terms {
		if !wantTerm(x) {
			return false
		}
	}
	return wantVariables(n.Names) && (row.names || len(n.Names) == 0) && (row.bodies >= 1 || len(n.Body) == 0) && (row.bodies == 2 || len(n.Else) == 0)
}

// placedNode is a node with the labels around it, and the numbers of the kinds that have these.
type placedNode struct {
	impl.Node
	labels map[string]int
}

// fits tells whether a label or a procedure may be named where the node stands.
func (n placedNode) fits(procs map[string]impl.Proc) bool {
	kind, is := n.labels[n.Name]
	proc, isProc := procs[n.Name]
	switch n.Kind {
	case 5:
		return isProc && len(n.Terms) == len(proc.Takes) && len(n.Names) == len(proc.Gives)
	case 7, 8:
		return !is
	case 9:
		return is
	case 10:
		return is && kind == 7
	}
	return true
}

// below has the nodes of all bodies of a node.
func (n placedNode) below() []placedNode {
	labels := map[string]int{}
	for label, kind := range n.labels {
		labels[label] = kind
	}
	if n.Name != "" {
		labels[n.Name] = n.Kind
	}
	var list []placedNode
	for _, body := range [][]impl.Node{n.Body, n.Else} {
		for _, node := range body {
			list = append(list, placedNode{Node: node, labels: labels})
		}
	}
	return list
}

func wantProcs(p impl.Program) (map[string]impl.Proc, bool) {
	procs := map[string]impl.Proc{}
	for _, proc := range p.Procs {
		if _, is := procs[proc.Name]; is || len(procs) == 12 || !wantFreeName(proc.Name) || !wantVariables(proc.Takes) || !wantVariables(proc.Gives) {
			return nil, false
		}
		procs[proc.Name] = proc
	}
	return procs, len(procs) > 0
}

// wantSize tells from chapter 11 how many nodes a program has; -1 if p is none.
func wantSize(p impl.Program) int {
	procs, ok := wantProcs(p)
	if !ok || !between(p.Room, 0, 64) || len(p.Data) > p.Room || slices.ContainsFunc(p.Data, func(n int) bool { return !between(n, 0, 255) }) {
		return -1
	}
	var level []placedNode
	for _, proc := range p.Procs {
		if len(proc.Body) > 3000 {
			return -1
		}
		level = append(level, placedNode{Node: impl.Node{Body: proc.Body}}.below()...)
	}
	size := 0
	for deep := 1; len(level) > 0; deep++ {
		size += len(level)
		if size > 3000 {
			return -1
		}
		var next []placedNode
		for _, n := range level {
			if !wantNode(n.Node) || !n.fits(procs) || nodeRows[n.Kind].bodies > 0 && deep == 60 || len(next) > 3000 {
				return -1
			}
			next = append(next, n.below()...)
		}
		level = next
	}
	return size
}

func wantProgram(p impl.Program) bool {
	return wantSize(p) >= 0
}

func wantTexts(list []impl.Term) string {
	var texts []string
	for _, x := range list {
		texts = append(texts, wantText(x))
	}
	return strings.Join(texts, ", ")
}

// wantBodyLines tells the lines of a body without what is ahead of them.
func wantBodyLines(list []impl.Node) []string {
	var lines []string
	for _, n := range list {
		formats := []string{"%[1]s = %[2]s", "word[%[2]s] = %[3]s", "byte[%[2]s] = %[3]s", "out %[2]s", "in %[1]s", "%[4]s = %[1]s(%[5]s)", "if %[2]s {", "loop %[1]s {", "block %[1]s {", "leave %[1]s", "again %[1]s", "back", "halt"}
		texts := []any{n.Name, "", "", strings.Join(n.Names, ", "), wantTexts(n.Terms)}
		for k, x := range n.Terms[:min(len(n.Terms), 2)] {
			texts[k+1] = wantText(x)
		}
		line := fmt.Sprintf(formats[n.Kind]+"%.0[1]s%.0[2]s%.0[3]s%.0[4]s%.0[5]s", texts...)
		lines = append(lines, line)
		if !strings.HasSuffix(line, "{") {
			continue
		}
		for _, inner := range wantBodyLines(n.Body) {
			lines = append(lines, "  "+inner)
		}
		if len(n.Else) > 0 {
			lines = append(lines, "} else {")
			for _, inner := range wantBodyLines(n.Else) {
				lines = append(lines, "  "+inner)
			}
		}
		lines = append(lines, "}")
	}
	return lines
}

// wantProgText tells from chapter 11 what the text of a program is.
func wantProgText(p impl.Program) string {
	lines := []string{strings.TrimSuffix("room "+fmt.Sprint(p.Room)+" "+strings.Trim(fmt.Sprint(p.Data), "[]"), " ")}
	for _, proc := range p.Procs {
		lines = append(lines, fmt.Sprintf("proc %s(%s) (%s) {", proc.Name, strings.Join(proc.Takes, ", "), strings.Join(proc.Gives, ", ")))
		for _, line := range wantBodyLines(proc.Body) {
			lines = append(lines, "  "+line)
		}
		lines = append(lines, "}")
	}
	return strings.Join(lines, "\n") + "\n"
}

var (
	roomPattern  = regexp.MustCompile(`^room( (0|[1-9][0-9]?[0-9]?)){1,65}$`)
	procPattern  = regexp.MustCompile(`^proc ([a-z0-9]+)\(([a-z0-9, ]*)\) \(([a-z0-9, ]*)\) \{$`)
	nodePatterns = []*regexp.Regexp{
		regexp.MustCompile(`^(?<name>[a-z0-9]+) = (?<a>.+)$`),
		regexp.MustCompile(`^word\[(?<a>.+)\] = (?<b>.+)$`),
		regexp.MustCompile(`^byte\[(?<a>.+)\] = (?<b>.+)$`),
		regexp.MustCompile(`^out (?<a>.+)$`),
		regexp.MustCompile(`^in (?<name>[a-z0-9]+)$`),
		regexp.MustCompile(`^(?<names>[a-z0-9, ]*) = (?<name>[a-z0-9]+)\((?<terms>.*)\)$`),
		regexp.MustCompile(`^if (?<a>.+) \{$`),
		regexp.MustCompile(`^loop (?<name>[a-z0-9]+) \{$`),
		regexp.MustCompile(`^block (?<name>[a-z0-9]+) \{$`),
		regexp.MustCompile(`^leave (?<name>[a-z0-9]+)$`),
		regexp.MustCompile(`^again (?<name>[a-z0-9]+)$`),
		regexp.MustCompile(`^back$`),
		regexp.MustCompile(`^halt$`),
	}
)

// splitTexts has the texts of a list; what has nothing between its commas is kept, and is none then.
func splitTexts(text string) []string {
	if text == "" {
		return nil
	}
	return strings.Split(text, ", ")
}

// readTerms has the terms that were read already, by their texts: what is read again and again differs in few of them.
var readTerms = map[string]struct {
	term impl.Term
	ok   bool
}{}

func wantReadTermOnce(text string) (impl.Term, bool) {
	was, is := readTerms[text]
	if !is {
		was.term, was.ok = wantReadTerm(text)
		readTerms[text] = was
	}
	return copiedTerm(was.term), was.ok
}

// wantReadNode tells which node a line is the first one of; false if there is none, or several.
func wantReadNode(line string) (impl.Node, bool) {
	var found []impl.Node
	for kind, pattern := range nodePatterns {
		parts := pattern.FindStringSubmatch(line)
		if parts == nil || strings.Contains(line, "\n") {
			continue
		}
		n, ok := impl.Node{Kind: kind}, true
		for k, name := range pattern.SubexpNames() {
			switch name {
			case "name":
				n.Name = parts[k]
			case "names":
				n.Names = splitTexts(parts[k])
			case "a", "b", "terms":
				texts := []string{parts[k]}
				if name == "terms" {
					texts = splitTexts(parts[k])
				}
				for _, text := range texts {
					x, is := wantReadTermOnce(text)
					n.Terms = append(n.Terms, x)
					ok = ok && is
				}
			}
		}
		if ok && wantNode(n) {
			found = append(found, n)
		}
	}
	if len(found) != 1 {
		return impl.Node{}, false
	}
	return found[0], true
}

// openBody is a body to which lines may belong still.
type openBody struct {
	list   *[]impl.Node
	others *[]impl.Node
	isElse bool
}

// wantReadLine puts a line where it belongs; false if it belongs nowhere.
func wantReadLine(open []openBody, line string) ([]openBody, bool) {
	deep := len(open)
	last := open[deep-1]
	if line == strings.Repeat("  ", deep-1)+"}" {
		return open[:deep-1], !last.isElse || len(*last.list) > 0
	}
	if deep > 1 && line == strings.Repeat("  ", deep-1)+"} else {" {
		return append(open[:deep-1], openBody{list: last.others, isElse: true}), last.others != nil
	}
	text, is := strings.CutPrefix(line, strings.Repeat("  ", deep))
	n, ok := wantReadNode(text)
	if !is || !ok {
		return nil, false
	}
	*last.list = append(*last.list, n)
	added := &(*last.list)[len(*last.list)-1]
	if n.Kind == 6 {
		return append(open, openBody{list: &added.Body, others: &added.Else}), true
	}
	if n.Kind == 7 || n.Kind == 8 {
		return append(open, openBody{list: &added.Body}), true
	}
	return open, true
}

// wantReadProgram tells from chapter 11 which program a text is that of.
func wantReadProgram(s string) (impl.Program, bool) {
	lines := strings.Split(s, "\n")
	last := len(lines) - 1
	if last < 1 || lines[last] != "" || !roomPattern.MatchString(lines[0]) {
		return impl.Program{}, false
	}
	var p impl.Program
	for k, text := range strings.Split(lines[0], " ")[1:] {
		n, _ := strconv.Atoi(text)
		if k == 0 {
			p.Room = n
		} else {
			p.Data = append(p.Data, n)
		}
	}
	var open []openBody
	for _, line := range lines[1:last] {
		if len(open) > 0 {
			var ok bool
			if open, ok = wantReadLine(open, line); !ok {
				return impl.Program{}, false
			}
			continue
		}
		parts := procPattern.FindStringSubmatch(line)
		if parts == nil {
			return impl.Program{}, false
		}
		p.Procs = append(p.Procs, impl.Proc{Name: parts[1], Takes: splitTexts(parts[2]), Gives: splitTexts(parts[3])})
		open = []openBody{{list: &p.Procs[len(p.Procs)-1].Body}}
	}
	if len(open) > 0 || !wantProgram(p) {
		return impl.Program{}, false
	}
	return p, true
}

func alikeNodes(a impl.Node, b impl.Node) bool {
	return a.Kind == b.Kind && a.Name == b.Name && slices.EqualFunc(a.Terms, b.Terms, alikeTerms) && slices.Equal(a.Names, b.Names) &&
		slices.EqualFunc(a.Body, b.Body, alikeNodes) && slices.EqualFunc(a.Else, b.Else, alikeNodes)
}

// alikePrograms tells apart from ProgSame whether all parts are equal, nil and empty lists being the same.
func alikePrograms(a impl.Program, b impl.Program) bool {
	return a.Room == b.Room && slices.Equal(a.Data, b.Data) && slices.EqualFunc(a.Procs, b.Procs, func(a impl.Proc, b impl.Proc) bool {
		return a.Name == b.Name && slices.Equal(a.Takes, b.Takes) && slices.Equal(a.Gives, b.Gives) && slices.EqualFunc(a.Body, b.Body, alikeNodes)
	})
}

func isNoProgram(p impl.Program) bool {
	return len(p.Procs) == 0 && p.Room == 0 && len(p.Data) == 0
}

func copiedNodes(list []impl.Node) []impl.Node {
	var made []impl.Node
	for _, n := range list {
		var terms []impl.Term
		for _, x := range n.Terms {
			terms = append(terms, copiedTerm(x))
		}
		n.Terms, n.Names, n.Body, n.Else = terms, slices.Clone(n.Names), copiedNodes(n.Body), copiedNodes(n.Else)
		made = append(made, n)
	}
	return made
}

func copiedProgram(p impl.Program) impl.Program {
	var procs []impl.Proc
	for _, proc := range p.Procs {
		procs = append(procs, impl.Proc{Name: proc.Name, Takes: slices.Clone(proc.Takes), Gives: slices.Clone(proc.Gives), Body: copiedNodes(proc.Body)})
	}
	return impl.Program{Procs: procs, Room: p.Room, Data: slices.Clone(p.Data)}
}

// brieflyProgram is what is told of a program in a message, also of one that has no end.
func brieflyProgram(p impl.Program) string {
	if !wantProgram(p) {
		return fmt.Sprintf("no program with %d procedures, a room of %d, and %d bytes", len(p.Procs), p.Room, len(p.Data))
	}
	text := wantProgText(p)
	return fmt.Sprintf("%q of %d bytes", text[:min(len(text), 400)], len(text))
}

// checkProgram checks all that is told of one program.
func checkProgram(t *testing.T, p impl.Program) {
	t.Helper()
	text := impl.ProgText(p)
	if !impl.ProgOk(p) || impl.ProgSize(p) != wantSize(p) || text != wantProgText(p) || !impl.ProgSame(p, p) {
		t.Errorf("%s: ProgOk %t, ProgSize %d, not %d, ProgText %q", brieflyProgram(p), impl.ProgOk(p), impl.ProgSize(p), wantSize(p), text[:min(len(text), 400)])
	}
	got, ok := impl.ProgRead(text)
	if !ok || !alikePrograms(got, p) || !impl.ProgSame(got, p) {
		t.Errorf("%s is read as %s, %t", brieflyProgram(p), brieflyProgram(got), ok)
	}
}

// checkNoProgram checks all that is told of what is no program.
func checkNoProgram(t *testing.T, what string, p impl.Program) {
	t.Helper()
	other := mainOf()
	if impl.ProgOk(p) || impl.ProgSize(p) != -1 || impl.ProgText(p) != "" || impl.ProgSame(p, p) || impl.ProgSame(p, other) || impl.ProgSame(other, p) {
		t.Errorf("%s: ProgOk %t, ProgSize %d, ProgText of %d bytes, ProgSame %t", what, impl.ProgOk(p), impl.ProgSize(p), len(impl.ProgText(p)), impl.ProgSame(p, p))
	}
}

// checkEither checks that p is a program just if the second reading of chapter 11 tells so, and returns whether it is.
func checkEither(t *testing.T, what string, p impl.Program) bool {
	t.Helper()
	if !wantProgram(p) {
		checkNoProgram(t, what, p)
		return false
	}
	checkProgram(t, p)
	return true
}

func checkNoProgramText(t *testing.T, text string) {
	t.Helper()
	if p, ok := impl.ProgRead(text); ok || !isNoProgram(p) {
		t.Errorf("ProgRead(%q) of %d bytes = %s, %t", text[:min(len(text), 400)], len(text), brieflyProgram(p), ok)
	}
}

// checkReadProgram compares what is read with the second reading of chapter 11, and returns whether it is a program.
func checkReadProgram(t *testing.T, text string) bool {
	t.Helper()
	want, is := wantReadProgram(text)
	if !is {
		checkNoProgramText(t, text)
		return false
	}
	p, ok := impl.ProgRead(text)
	if !ok || !alikePrograms(p, want) || !impl.ProgOk(p) || impl.ProgText(p) != text {
		t.Errorf("ProgRead(%q) = %s, %t, not %s", text, brieflyProgram(p), ok, brieflyProgram(want))
	}
	return true
}

// variables draws different names of variables, seldom as many as there may be.
func (l *lot) variables() []string {
	names := strings.Fields("a b r0 e k main words abcdefgh x9 room")
	var list []string
	for most := l.oneOf(0, 1, 1, 2, 3, 8); len(list) < most; {
		name := names[l.next(len(names))]
		if !slices.Contains(list, name) {
			list = append(list, name)
		}
	}
	return list
}

// nodesIn draws a body within loops and blocks of some labels: each has a sign ahead of it that tells whether it is that of a loop.
func (l *lot) nodesIn(procs []impl.Proc, labels []string, high int) []impl.Node {
	var list []impl.Node
	for range l.next(4) {
		list = append(list, l.node(procs, labels, high))
	}
	return list
}

func (l *lot) node(procs []impl.Proc, labels []string, high int) impl.Node {
	n := impl.Node{Kind: l.next(13), Name: l.freeName()}
	if nodeRows[n.Kind].bodies > 0 && high == 0 {
		n.Kind = 3
	}
	switch n.Kind {
	case 5:
		proc := procs[l.next(len(procs))]
		n.Name = proc.Name
		for range proc.Takes {
			n.Terms = append(n.Terms, l.term(2))
		}
		for k := range proc.Gives {
			n.Names = append(n.Names, "v"+strconv.Itoa(k))
		}
	case 6:
		n.Body, n.Else = l.nodesIn(procs, labels, high-1), l.nodesIn(procs, labels, high-1)
	case 7, 8:
		label := strings.Fields("k all main b0 l1 a")[l.next(6)]
		if slices.Contains(labels, "+"+label) || slices.Contains(labels, "-"+label) {
			label = "n" + strconv.Itoa(high)
		}
		n.Name = label
		n.Body = l.nodesIn(procs, append(slices.Clone(labels), []string{"+", "-"}[n.Kind-7]+label), high-1)
	case 9, 10:
		isNone := func(label string) bool { return n.Kind == 10 && label[0] == '-' }
		may := slices.DeleteFunc(slices.Clone(labels), isNone)
		if len(may) == 0 {
			n.Kind = 12
			break
		}
		n.Name = may[l.next(len(may))][1:]
	}
	if row := nodeRows[n.Kind]; n.Kind != 5 {
		for range row.terms {
			n.Terms = append(n.Terms, l.term(1+l.next(4)))
		}
		if !row.named {
			n.Name = ""
		}
	}
	return n
}

func (l *lot) freeName() string {
	return strings.Fields("a b r0 x9 k main words abcdefgh")[l.next(8)]
}

func (l *lot) wholeProgram() impl.Program {
	var p impl.Program
	for _, name := range strings.Fields("main a k step f0 f12 back0 abcdefgh p1 p2 p3 p4")[:l.oneOf(1, 1, 2, 3, 4, 12)] {
		p.Procs = append(p.Procs, impl.Proc{Name: name, Takes: l.variables(), Gives: l.variables()})
	}
	for k := range p.Procs {
		p.Procs[k].Body = l.nodesIn(p.Procs, nil, l.oneOf(1, 2, 3, 5))
	}
	p.Room = l.oneOf(0, 1, 9, 63, 64)
	p.Data = slices.Clone(codeOf(64)[:l.next(p.Room+1)])
	return p
}

func drawnPrograms(count int) []impl.Program {
	l := &lot{state: 11}
	var list []impl.Program
	for range count {
		list = append(list, l.wholeProgram())
	}
	return list
}

// nested has a body within so many others, by nodes that a function makes.
func nested(deep int, of func(label string, body []impl.Node) impl.Node, last ...impl.Node) []impl.Node {
	body := last
	for k := deep; k > 1; k-- {
		body = nodes(of("n"+strconv.Itoa(k), body))
	}
	return body
}

// nesters make nodes with a body that has nodes: by each of the kinds that have bodies, and by Else.
func nesters() []func(label string, body []impl.Node) impl.Node {
	return []func(label string, body []impl.Node) impl.Node{
		func(label string, body []impl.Node) impl.Node { return ifNode("x", body, nil) },
		func(label string, body []impl.Node) impl.Node { return ifNode("x", nil, body) },
		func(label string, body []impl.Node) impl.Node { return ifNode("x", body, nodes(haltNode)) },
		func(label string, body []impl.Node) impl.Node { return loopNode(label, body...) },
		func(label string, body []impl.Node) impl.Node { return blockNode(label, body...) },
	}
}

// sizedProcs has procedures with so many nodes each, in bodies within each other.
func sizedProcs(sizes ...int) impl.Program {
	var p impl.Program
	for k, size := range sizes {
		var body []impl.Node
		for j := range size {
			if j%100 == 50 {
				body = nodes(ifNode("1", nil, body))
			} else {
				body = append(body, haltNode)
			}
		}
		p.Procs = append(p.Procs, procOf("p"+strconv.Itoa(k), "", "", body...))
	}
	return p
}

// largestPrograms are at the ends of all ranges of chapter 11.
func largestPrograms() []impl.Program {
	l := &lot{state: 1}
	var many impl.Program
	names := strings.Fields("a b c d e f g h i j k l")
	for _, name := range names {
		many.Procs = append(many.Procs, impl.Proc{Name: name, Takes: names[:8], Gives: names[4:], Body: nodes(impl.Node{Kind: 5, Name: names[l.next(12)], Terms: slices.Repeat([]impl.Term{sized(60)}, 8), Names: names[:8]})})
	}
	list := []impl.Program{many, sizedProcs(3000), sizedProcs(2999, 1), sizedProcs(slices.Repeat([]int{250}, 12)...), sizedProcs(0, 3000), mainOf(slices.Repeat(nodes(haltNode), 3000)...)}
	for _, of := range nesters() {
		list = append(list, mainOf(nested(60, of)...), mainOf(nested(60, of, setNode("x", "5"), haltNode)...))
	}
	for _, room := range []int{0, 1, 63, 64} {
		for _, long := range []int{0, room / 2, room} {
			p := mainOf()
			p.Room, p.Data = room, codeOf(64)[:long]
			list = append(list, p)
		}
	}
	for _, x := range largestTerms() {
		list = append(list, mainOf(impl.Node{Kind: 1, Terms: []impl.Term{x, x}}, impl.Node{Kind: 6, Terms: []impl.Term{x}}))
	}
	return list
}

// basePrograms have all kinds of nodes.
func basePrograms() []impl.Program {
	var list []impl.Program
	for _, text := range []string{
		"room 9 7 0\nproc main(a) (b) {\n  loop k {\n    b = f((a + 1), b)\n    block j {\n      if (a < 3) {\n        leave k\n        leave j\n      } else {\n        again k\n        in x\n      }\n    }\n    word[a] = 5\n    byte[b] = x\n  }\n   = g()\n  out !b\n}\nproc f(a, c) (c) {\n  c = word[a]\n  back\n}\nproc g() () {\n  if 0 {\n  }\n  halt\n}\n",
		"room 0\nproc k() () {\n  block a {\n    loop b {\n      block c {\n        leave a\n      }\n      again b\n    }\n  }\n  loop b {\n    leave b\n  }\n}\n",
		"room 64 255\nproc x(x) (x) {\n  if x {\n  } else {\n    x = x(x)\n  }\n}\nproc y() (a, b) {\n  a, b = y()\n}\n",
	} {
		p, ok := wantReadProgram(text)
		if !ok {
			panic(text + " is the text of no program")
		}
		list = append(list, p)
	}
	return list
}

func goodPrograms() []impl.Program {
	list := append(basePrograms(), largestPrograms()...)
	for _, s := range shownPrograms() {
		list = append(list, s.program)
	}
	return list
}

func somePrograms() []impl.Program {
	return append(goodPrograms(), drawnPrograms(600)...)
}

// eachNode calls a function with all nodes of a program, which may change them.
func eachNode(p impl.Program, visit func(n *impl.Node)) {
	var each func(list []impl.Node)
	each = func(list []impl.Node) {
		for k := range list {
			visit(&list[k])
			each(list[k].Body)
			each(list[k].Else)
		}
	}
	for _, proc := range p.Procs {
		each(proc.Body)
	}
}

// withNode has another node in the place of the one of a number; what it returns shares nothing.
func withNode(p impl.Program, number int, change func(n impl.Node) impl.Node) impl.Program {
	p = copiedProgram(p)
	var place *impl.Node
	eachNode(p, func(n *impl.Node) {
		if number == 0 {
			place = n
		}
		number--
	})
	*place = change(*place)
	return copiedProgram(p)
}

// nodeChanges change a node in one part.
func nodeChanges() []func(n impl.Node) impl.Node {
	a, end := named("a"), nodes(haltNode)
	list := []func(n impl.Node) impl.Node{
		func(n impl.Node) impl.Node { n.Terms = nil; return n },
		func(n impl.Node) impl.Node { n.Terms = append([]impl.Term{a}, n.Terms...); return n },
		func(n impl.Node) impl.Node { n.Terms = append(n.Terms, num(7)); return n },
		func(n impl.Node) impl.Node { slices.Reverse(n.Terms); return n },
		func(n impl.Node) impl.Node { n.Names = nil; return n },
		func(n impl.Node) impl.Node {
			n.Names = append([]string{"zz"}, n.Names[min(len(n.Names), 1):]...)
			return n
		},
		func(n impl.Node) impl.Node { slices.Reverse(n.Names); return n },
		func(n impl.Node) impl.Node { n.Names = append(n.Names, "zz"); return n },
		func(n impl.Node) impl.Node { n.Names = append(n.Names, "A"); return n },
		func(n impl.Node) impl.Node { n.Names = append(n.Names, n.Names...); return n },
		func(n impl.Node) impl.Node { n.Body = nil; return n },
		func(n impl.Node) impl.Node { n.Else = nil; return n },
		func(n impl.Node) impl.Node { n.Body = append(n.Body, end...); return n },
		func(n impl.Node) impl.Node { n.Else = append(n.Else, end...); return n },
		func(n impl.Node) impl.Node { n.Body, n.Else = n.Else, n.Body; return n },
		func(n impl.Node) impl.Node { n.Body = append(n.Body, leaveNode("k")); return n },
		func(n impl.Node) impl.Node { n.Body = append(n.Body, againNode("j")); return n },
	}
	for _, kind := range []int{math.MinInt, -1, 0, 1, 2, 3, 4, 5, 6, 7, 8, 9, 10, 11, 12, 13, 256, math.MaxInt} {
		list = append(list, func(n impl.Node) impl.Node { n.Kind = kind; return n })
	}
	for _, name := range strings.Fields("a b c k j main f g x word halt K 9 abcdefghi proc") {
		list = append(list, func(n impl.Node) impl.Node { n.Name = name; return n })
	}
	list = append(list, func(n impl.Node) impl.Node { n.Name = ""; return n }, func(n impl.Node) impl.Node { n.Name = "a b"; return n })
	for _, x := range []impl.Term{{Kind: 6}, num(-1), num(65536), named("if"), named(""), {Kind: 3}, bin(a, "%", a), tall(15, not, num(0)), sized(61)} {
		list = append(list, func(n impl.Node) impl.Node {
			n.Terms = slices.Clone(n.Terms)
			for k := range n.Terms {
				n.Terms[k] = x
			}
			return n
		})
	}
	return list
}

func TestNumbersOfPrograms(t *testing.T) {
	kinds := []int{impl.NodeSet, impl.NodeStore, impl.NodeStoreB, impl.NodeOut, impl.NodeIn, impl.NodeCall, impl.NodeIf, impl.NodeLoop, impl.NodeBlock, impl.NodeLeave, impl.NodeAgain, impl.NodeBack, impl.NodeHalt}
	for k, kind := range kinds {
		if kind != k {
			t.Errorf("kind %d has the number %d", k, kind)
		}
	}
	if impl.MaxProcs != 12 || impl.MaxVars != 8 || impl.MaxSize != 3000 || impl.MaxNest != 60 {
		t.Errorf("limits %d, %d, %d, %d", impl.MaxProcs, impl.MaxVars, impl.MaxSize, impl.MaxNest)
	}
}

func TestProgOkOfPrograms(t *testing.T) {
	kinds := map[int]int{}
	for _, p := range somePrograms() {
		eachNode(p, func(n *impl.Node) { kinds[n.Kind]++ })
		if !wantProgram(p) || !impl.ProgOk(p) {
			t.Errorf("%s is told to be none", brieflyProgram(p))
		}
	}
	for kind := range 13 {
		if kinds[kind] < 50 {
			t.Errorf("just %d nodes of kind %d", kinds[kind], kind)
		}
	}
}

// Each kind of node has some of the parts that there are, and must have no others.
func TestProgOkOfAllForms(t *testing.T) {
	base := impl.Program{Procs: []impl.Proc{procOf("main", "", ""), procOf("f", "a", "b"), procOf("two", "a b", "b a"), procOf("none", "", "")}}
	names := [][]string{nil, {}, {"b"}, {"b", "a"}, {"a", "a"}, {"in"}}
	bodies := [][]impl.Node{nil, {}, nodes(haltNode), nodes(leaveNode("k"))}
	taken, refused := 0, 0
	for kind := -1; kind <= 13; kind++ {
		for _, name := range []string{"", "a", "k", "j", "f", "two", "none", "halt", "A"} {
			for count := range 4 {
				for _, list := range names {
					for _, body := range bodies {
						for _, others := range bodies {
							n := impl.Node{Kind: kind, Name: name, Terms: slices.Repeat([]impl.Term{num(5)}, count), Names: list, Body: body, Else: others}
							base.Procs[0].Body = nodes(loopNode("k", blockNode("j", n)))
							if checkEither(t, fmt.Sprintf("kind %d, name %q, %d terms, names %q, bodies of %d and %d", kind, name, count, list, len(body), len(others)), base) {
								taken++
							} else {
								refused++
							}
						}
					}
				}
			}
		}
	}
	if taken < 300 || refused < 10000 {
		t.Errorf("%d nodes were taken, and %d refused", taken, refused)
	}
}

func TestProgOkOfChangedNodes(t *testing.T) {
	taken, refused := 0, 0
	for _, p := range basePrograms() {
		for number := range wantSize(p) {
			for k, change := range nodeChanges() {
				if checkEither(t, fmt.Sprintf("change %d of node %d of %s", k, number, brieflyProgram(p)), withNode(p, number, change)) {
					taken++
				} else {
					refused++
				}
			}
		}
	}
	if taken < 200 || refused < 800 {
		t.Errorf("%d programs were taken, and %d refused", taken, refused)
	}
}

// What a node may not name, or must not have, counts wherever it stands.
func TestProgOkOfNamesAnywhere(t *testing.T) {
	bad := []impl.Node{setNode("", "0"), setNode("word", "0"), setNode("A", "0"), {Kind: 4, Name: "in"}, {Kind: 4, Name: "9"}, {Kind: 4}, loopNode("loop"), loopNode(""), blockNode("block"), blockNode("a b"),
		leaveNode(""), leaveNode("nowhere"), againNode(""), againNode("nowhere"), callNode("", "nothing", ""), callNode("", "", ""), callNode("", "proc", ""), {Kind: 3}, {Kind: 13}, {Kind: -1}}
	for _, name := range noFreeNames() {
		bad = append(bad, impl.Node{Kind: 0, Name: name, Terms: termsOf("0")}, impl.Node{Kind: 4, Name: name}, loopNode(name), blockNode(name), loopNode(name, leaveNode(name)), loopNode(name, againNode(name)), callNode("", name, ""), impl.Node{Kind: 5, Name: "f", Terms: termsOf("1"), Names: []string{name}})
	}
	for k, n := range bad {
		for deep := 1; deep <= 4; deep++ {
			for _, of := range nesters() {
				for _, body := range [][]impl.Node{nodes(n), nodes(haltNode, n), nodes(n, haltNode)} {
					p := impl.Program{Procs: []impl.Proc{procOf("main", "", ""), procOf("f", "a", "b")}}
					p.Procs[deep%2].Body = nested(deep, of, body...)
					checkNoProgram(t, fmt.Sprintf("bad node %d, %d deep", k, deep), p)
				}
			}
		}
	}
}

func TestProgOkOfProcedures(t *testing.T) {
	good := procOf("f", "a", "b")
	for _, name := range noFreeNames() {
		for k, bad := range []impl.Proc{{Name: name}, {Name: "g", Takes: []string{name}}, {Name: "g", Gives: []string{name}}, {Name: "g", Takes: []string{"a", name}}, {Name: "g", Gives: []string{name, "a"}}} {
			for _, procs := range [][]impl.Proc{{bad}, {good, bad}, {bad, good}} {
				checkNoProgram(t, fmt.Sprintf("the name %q as %d", name, k), impl.Program{Procs: procs})
			}
		}
	}
	names := strings.Fields("a b c d e f g h i j k l m n o p")
	for count := range 16 {
		var procs []impl.Proc
		for _, name := range names[:count] {
			procs = append(procs, impl.Proc{Name: name})
		}
		if is := checkEither(t, fmt.Sprint(count, " procedures"), impl.Program{Procs: procs}); is != between(count, 1, 12) {
			t.Errorf("%d procedures are told to be a program: %t", count, is)
		}
		for _, p := range []impl.Proc{{Name: "f", Takes: names[:count]}, {Name: "f", Gives: names[:count]}, {Name: "f", Takes: names[:count], Gives: names[1:min(count+1, 9)]}} {
			if is := checkEither(t, fmt.Sprint(count, " variables"), impl.Program{Procs: []impl.Proc{{Name: "first"}, p}}); is != (count <= 8) {
				t.Errorf("%d variables are told to be a program: %t", count, is)
			}
		}
	}
	// Two procedures of one name, wherever they stand; but a variable may be taken and given.
	for _, count := range []int{2, 3, 12} {
		for k := range count {
			for j := range k {
				var procs []impl.Proc
				for _, name := range names[:count] {
					procs = append(procs, impl.Proc{Name: name})
				}
				procs[k].Name = procs[j].Name
				checkNoProgram(t, fmt.Sprintf("of %d procedures %d and %d have one name", count, j, k), impl.Program{Procs: procs})
				if count == 12 && k < 8 {
					twice := slices.Clone(names[:8])
					twice[k] = twice[j]
					checkNoProgram(t, "a variable that is taken twice", impl.Program{Procs: []impl.Proc{{Name: "f", Takes: twice}}})
					checkNoProgram(t, "a variable that is given twice", impl.Program{Procs: []impl.Proc{{Name: "f", Gives: twice}}})
				}
			}
		}
	}
	checkProgram(t, impl.Program{Procs: []impl.Proc{{Name: "a", Takes: names[:8], Gives: names[:8], Body: nodes(loopNode("a", setNode("a", "a")))}}})
	checkNoProgram(t, "nothing", impl.Program{})
	checkNoProgram(t, "no procedures", impl.Program{Procs: []impl.Proc{}, Room: 1, Data: []int{1}})
}

func TestProgOkOfMemory(t *testing.T) {
	for room := -3; room <= 70; room++ {
		for long := 0; long <= 70; long++ {
			p := mainOf()
			p.Room, p.Data = room, codeOf(long)
			if is := checkEither(t, fmt.Sprintf("a room of %d and %d bytes", room, long), p); is != (between(room, 0, 64) && long <= room) {
				t.Errorf("a room of %d and %d bytes are told to be a program: %t", room, long, is)
			}
		}
	}
	for _, room := range []int{math.MinInt, -65536, -256, 65, 255, 256, 320, 65536, math.MaxInt} {
		p := mainOf()
		p.Room = room
		checkNoProgram(t, fmt.Sprintf("a room of %d", room), p)
	}
	for _, n := range noBytes {
		for _, data := range [][]int{{n}, {1, 2, n}, {n, 1, 2}, append(make([]int, 63), n)} {
			p := mainOf()
			p.Room, p.Data = 64, data
			checkNoProgram(t, fmt.Sprintf("the byte %d", n), p)
		}
	}
	for n := -300; n <= 600; n++ {
		p := mainOf()
		p.Room, p.Data = 2, []int{0, n}
		if is := checkEither(t, fmt.Sprintf("the byte %d", n), p); is != between(n, 0, 255) {
			t.Errorf("the byte %d is told to be one: %t", n, is)
		}
	}
}

func TestProgOkOfAllSizes(t *testing.T) {
	for _, size := range []int{0, 1, 2, 2998, 2999, 3000, 3001, 3002, 6000} {
		half := size / 2
		programs := []impl.Program{
			mainOf(slices.Repeat(nodes(haltNode), size)...), sizedProcs(size), sizedProcs(0, size), sizedProcs(size, 0), sizedProcs(half, size-half),
			sizedProcs(append(slices.Repeat([]int{size / 12}, 11), size-size/12*11)...),
		}
		if size > 2 {
			rest := slices.Repeat(nodes(haltNode), size-1)
			for _, of := range nesters() {
				if n := of("k", rest); len(n.Body) == 0 || len(n.Else) == 0 {
					programs = append(programs, mainOf(n))
				}
			}
			programs = append(programs, mainOf(ifNode("x", rest[half:], rest[:half])), mainOf(append(rest[1:], loopNode("k", haltNode))...))
		}
		for k, p := range programs {
			if is := checkEither(t, fmt.Sprintf("%d nodes as %d", size, k), p); is != (size <= 3000) || is && impl.ProgSize(p) != size {
				t.Errorf("%d nodes as %d: %t, ProgSize %d", size, k, is, impl.ProgSize(p))
			}
		}
	}
}

func TestProgOkOfAllDepths(t *testing.T) {
	for _, deep := range []int{1, 2, 3, 58, 59, 60, 61, 62, 70, 100} {
		for k, of := range nesters() {
			for _, last := range [][]impl.Node{nil, nodes(haltNode), nodes(setNode("x", "5"), outNode("x"))} {
				body := nested(deep, of, last...)
				for _, p := range []impl.Program{mainOf(body...), {Procs: []impl.Proc{procOf("first", "", "", haltNode), procOf("f", "", "", append(nodes(haltNode), body...)...)}}} {
					if is := checkEither(t, fmt.Sprintf("%d deep by %d", deep, k), p); is != (deep <= 60) {
						t.Errorf("%d deep by %d with %d nodes within is told to be a program: %t", deep, k, len(last), is)
					}
				}
			}
		}
		// By all of them in turn.
		turn := 0
		body := nested(deep, func(label string, body []impl.Node) impl.Node { turn++; return nesters()[turn%5](label, body) }, backNode)
		if is := checkEither(t, fmt.Sprintf("%d deep by all", deep), mainOf(body...)); is != (deep <= 60) {
			t.Errorf("%d deep is told to be a program: %t", deep, is)
		}
	}
}

func TestProgOkOfCalls(t *testing.T) {
	names := strings.Fields("a b c d e f g h i j")
	for takes := range 9 {
		for gives := range 9 {
			callee := impl.Proc{Name: "callee", Takes: names[:takes], Gives: names[:gives]}
			for terms := range 11 {
				for set := range 11 {
					call := impl.Node{Kind: 5, Name: "callee", Terms: slices.Repeat([]impl.Term{named("x")}, terms), Names: names[:set]}
					caller, itself := procOf("caller", "", "", call), callee
					itself.Body = nodes(call)
					for _, procs := range [][]impl.Proc{{caller, callee}, {callee, caller}, {itself}} {
						if is := impl.ProgOk(impl.Program{Procs: procs}); is != (terms == takes && set == gives) {
							t.Errorf("a call with %d and %d of what takes %d and gives %d: %t", terms, set, takes, gives, is)
						}
					}
				}
			}
		}
	}
	for count := 2; count <= 8; count++ {
		for k := range count {
			for j := range k {
				twice := slices.Clone(names[:count])
				twice[k] = twice[j]
				checkNoProgram(t, "a variable that a call sets twice", impl.Program{Procs: []impl.Proc{procOf("main", "", "", impl.Node{Kind: 5, Name: "f", Names: twice}), {Name: "f", Gives: names[:count]}}})
			}
		}
	}
	// It may be called with the same term twice, and set what it is called with.
	checkProgram(t, impl.Program{Procs: []impl.Proc{procOf("f", "a b", "a b", callNode("b a", "f", "a a"), callNode("x y", "f", "x y"))}})
}

func TestProgOkOfLabels(t *testing.T) {
	yes := []impl.Program{
		mainOf(loopNode("k", leaveNode("k"), againNode("k")), blockNode("k", leaveNode("k")), loopNode("k", againNode("k"))),
		mainOf(loopNode("k", blockNode("j", againNode("k"), leaveNode("k"), leaveNode("j")))),
		mainOf(blockNode("j", loopNode("k", againNode("k"), leaveNode("k"), leaveNode("j")))),
		mainOf(loopNode("k", loopNode("j", againNode("k"), againNode("j")), loopNode("j", leaveNode("j"), leaveNode("k")))),
		mainOf(loopNode("k", ifNode("x", nodes(leaveNode("k")), nodes(againNode("k"))), ifNode("x", nil, nodes(ifNode("y", nodes(againNode("k")), nil))))),
		mainOf(ifNode("x", nodes(loopNode("k", leaveNode("k"))), nodes(blockNode("k", leaveNode("k"))))),
		mainOf(loopNode("main", setNode("main", "main"), callNode("", "main", ""), leaveNode("main"))),
		{Procs: []impl.Proc{procOf("a", "", "", loopNode("k", leaveNode("k"))), procOf("b", "", "", blockNode("k", leaveNode("k")))}},
	}
	no := []impl.Program{
		mainOf(leaveNode("k")), mainOf(againNode("k")), mainOf(leaveNode("main")), mainOf(setNode("k", "1"), leaveNode("k")),
		mainOf(leaveNode("k"), loopNode("k")), mainOf(loopNode("k"), leaveNode("k")), mainOf(againNode("k"), loopNode("k")), mainOf(loopNode("k"), againNode("k")),
		mainOf(blockNode("k"), leaveNode("k")), mainOf(blockNode("k", againNode("k"))), mainOf(loopNode("j", blockNode("k", againNode("k")))), mainOf(blockNode("k", loopNode("j", againNode("k")))),
		mainOf(loopNode("k", leaveNode("j"))), mainOf(loopNode("k", againNode("j"))), mainOf(loopNode("k", loopNode("j"), leaveNode("j"))), mainOf(loopNode("k", againNode("j"), loopNode("j"))),
		mainOf(loopNode("k", loopNode("k"))), mainOf(blockNode("k", blockNode("k"))), mainOf(loopNode("k", blockNode("k"))), mainOf(blockNode("k", loopNode("k"))),
		mainOf(blockNode("k", loopNode("k", againNode("k")))), mainOf(loopNode("k", blockNode("k", leaveNode("k")))), mainOf(loopNode("k", blockNode("j", ifNode("x", nil, nodes(loopNode("k")))))),
		mainOf(loopNode("k", loopNode("j", loopNode("l", ifNode("x", nodes(blockNode("k")), nil))))), mainOf(ifNode("x", nodes(loopNode("k")), nodes(leaveNode("k")))), mainOf(ifNode("x", nodes(againNode("k")), nodes(loopNode("k")))),
		{Procs: []impl.Proc{procOf("a", "", "", loopNode("k")), procOf("b", "", "", leaveNode("k"))}}, {Procs: []impl.Proc{procOf("a", "", "", againNode("b")), procOf("b", "", "", loopNode("b"))}},
	}
	for k, p := range yes {
		if !wantProgram(p) {
			t.Errorf("%d is none", k)
		}
		checkProgram(t, p)
	}
	for k, p := range no {
		if wantProgram(p) {
			t.Errorf("%d is a program", k)
		}
		checkNoProgram(t, fmt.Sprintf("labels %d", k), p)
	}
	// Far out, and just farther out than there are bodies.
	for _, far := range []int{1, 2, 3, 4, 20, 57, 58, 59, 60} {
		for _, last := range []impl.Node{leaveNode("far"), againNode("far"), leaveNode("n2"), againNode("n2"), leaveNode("n1"), againNode("n1")} {
			for _, of := range nesters() {
				checkEither(t, fmt.Sprintf("a label that is %d bodies out", far), mainOf(loopNode("far", nested(far, of, last)...)))
				checkEither(t, fmt.Sprintf("a label that is %d bodies out", far), mainOf(blockNode("far", nested(far, of, last)...)))
				checkEither(t, fmt.Sprintf("a label %d bodies within", far), mainOf(blockNode("n2", nested(far, of, last)...)))
			}
		}
	}
}

// endlessPrograms have bodies within themselves, or so many that nobody could look at all of them.
func endlessPrograms() []impl.Program {
	var list []impl.Program
	for _, of := range nesters() {
		one := make([]impl.Node, 1)
		one[0] = of("k", one)
		two := make([]impl.Node, 2)
		two[0], two[1] = of("k", two), of("j", two)
		list = append(list, mainOf(one...), mainOf(two...), mainOf(haltNode, two[1]))
		list = append(list, mainOf(nested(100000, of, haltNode)...))
	}
	both := make([]impl.Node, 1)
	both[0] = ifNode("x", both, both)
	doubled := nodes(ifNode("x", nil, nil))
	for range 58 {
		doubled = nodes(ifNode("x", doubled, doubled))
	}
	list = append(list, mainOf(both...), mainOf(doubled...), mainOf(make([]impl.Node, 1000000)...), impl.Program{Procs: make([]impl.Proc, 1000000)})
	for _, x := range endlessTerms() {
		list = append(list, mainOf(impl.Node{Kind: 3, Terms: []impl.Term{x}}), mainOf(impl.Node{Kind: 6, Terms: []impl.Term{x}}))
	}
	many := callNode("", "main", "")
	many.Terms = make([]impl.Term, 1000000)
	called := callNode("", "main", "")
	called.Names = make([]string, 1000000)
	return append(list, mainOf(many), mainOf(called), impl.Program{Procs: []impl.Proc{{Name: "f", Takes: make([]string, 1000000)}}}, impl.Program{Procs: []impl.Proc{{Name: "f"}}, Room: 1, Data: make([]int, 1000000)})
}

func TestNoEndlessPrograms(t *testing.T) {
	for k, p := range endlessPrograms() {
		if wantProgram(p) {
			t.Errorf("%d is a program", k)
		}
		checkNoProgram(t, fmt.Sprintf("endless program %d", k), p)
	}
}

// Promise 52: a program is read as it is written.

func TestPromise52Values(t *testing.T) {
	for _, s := range shownPrograms() {
		if text := impl.ProgText(s.program); text != s.text {
			t.Errorf("ProgText of %q = %q", s.text, text)
		}
		if p, ok := impl.ProgRead(s.text); !ok || !alikePrograms(p, s.program) {
			t.Errorf("ProgRead(%q) = %s, %t", s.text, brieflyProgram(p), ok)
		}
		if size := impl.ProgSize(s.program); size != s.size {
			t.Errorf("ProgSize of %q = %d", s.text, size)
		}
	}
}

func TestPromise52ReadAsWritten(t *testing.T) {
	for _, p := range somePrograms() {
		checkProgram(t, p)
	}
}

func TestPromise52AllNumbers(t *testing.T) {
	for room := range 65 {
		for _, long := range []int{0, 1, room / 2, room} {
			p := mainOf(outNode("0"))
			p.Room, p.Data = room, codeOf(64)[:min(long, room)]
			checkProgram(t, p)
		}
	}
	for n := range 256 {
		p := mainOf()
		p.Room, p.Data = 3, []int{n, 0, n}
		text := fmt.Sprintf("room 3 %d 0 %d\nproc main() () {\n}\n", n, n)
		if got, ok := impl.ProgRead(text); impl.ProgText(p) != text || !ok || !alikePrograms(got, p) {
			t.Errorf("%q is read as %s, %t", text, brieflyProgram(got), ok)
		}
	}
}

// Names that look like the words of other lines stay names.
func TestPromise52NamesNearWords(t *testing.T) {
	for _, name := range append(strings.Fields("room words word1 bytes outs out1 inn in0 iff else1 loops loop2 blocks leaves agains backs back1 halts halt0 procs room1 x e l b r0 s39 f0 go all way"), "a1234567") {
		p := impl.Program{Procs: []impl.Proc{procOf(name, name, name,
			setNode(name, name), impl.Node{Kind: 1, Terms: termsOf(name, name)}, outNode(name), impl.Node{Kind: 4, Name: name}, callNode(name, name, name),
			ifNode(name, nodes(loopNode(name, againNode(name), leaveNode(name))), nodes(blockNode(name, leaveNode(name)))))}}
		checkProgram(t, p)
	}
}

// Promise 53: programs are equal just if their texts are.

// changedPrograms are programs that differ from one another in one part alone; none is there twice.
func changedPrograms() []impl.Program {
	var list []impl.Program
	add := func(p impl.Program) {
		isSame := func(other impl.Program) bool { return alikePrograms(p, other) }
		if wantProgram(p) && !slices.ContainsFunc(list, isSame) {
			list = append(list, p)
		}
	}
	for _, base := range basePrograms() {
		add(base)
		for number := range wantSize(base) {
			for _, change := range nodeChanges() {
				add(withNode(base, number, change))
			}
		}
		for _, change := range []func(p *impl.Program){
			func(p *impl.Program) { p.Room++ },
			func(p *impl.Program) { p.Room-- },
			func(p *impl.Program) { p.Data = append(p.Data, 0) },
			func(p *impl.Program) { p.Data = append(p.Data, 9) },
			func(p *impl.Program) { p.Data = nil },
			func(p *impl.Program) { p.Data = p.Data[:max(len(p.Data)-1, 0)] },
			func(p *impl.Program) { p.Data[0]-- },
			func(p *impl.Program) { slices.Reverse(p.Data) },
			func(p *impl.Program) { slices.Reverse(p.Procs) },
			func(p *impl.Program) { p.Procs = append(p.Procs, impl.Proc{Name: "more"}) },
			func(p *impl.Program) { p.Procs[0].Body = nil },
			func(p *impl.Program) { slices.Reverse(p.Procs[0].Body) },
			func(p *impl.Program) { p.Procs[0].Name = "other" },
			func(p *impl.Program) { p.Procs[0].Takes = []string{"z"} },
			func(p *impl.Program) { p.Procs[0].Gives = []string{"z"} },
			func(p *impl.Program) { slices.Reverse(p.Procs[1].Takes) },
			func(p *impl.Program) { slices.Reverse(p.Procs[1].Gives) },
			func(p *impl.Program) { p.Procs[0].Takes, p.Procs[0].Gives = p.Procs[0].Gives, p.Procs[0].Takes },
		} {
			p := copiedProgram(base)
			if len(p.Data) > 0 && len(p.Procs) > 1 {
				change(&p)
				add(copiedProgram(p))
			}
		}
	}
	return list
}

func checkPairs(t *testing.T, list []impl.Program) int {
	t.Helper()
	var texts []string
	for _, p := range list {
		texts = append(texts, impl.ProgText(p))
	}
	same := 0
	for k, a := range list {
		for l, b := range list {
			want := alikePrograms(a, b)
			if want {
				same++
			}
			if is := impl.ProgSame(a, b); is != want {
				t.Errorf("ProgSame(%q, %q) = %t", texts[k], texts[l], is)
			}
			if is := texts[k] == texts[l]; is != want {
				t.Errorf("%q and %q have the same text: %t", texts[k], texts[l], is)
			}
		}
	}
	return same
}

func TestPromise53OneChange(t *testing.T) {
	list := changedPrograms()
	if len(list) < 100 {
		t.Errorf("just %d programs", len(list))
	}
	if same := checkPairs(t, list); same != len(list) {
		t.Errorf("%d pairs of %d programs are the same", same, len(list))
	}
}

func TestPromise53JustIfTheTextsAre(t *testing.T) {
	list := append(basePrograms(), drawnPrograms(150)...)
	for _, s := range shownPrograms() {
		list = append(list, s.program)
	}
	for _, p := range basePrograms() {
		list = append(list, copiedProgram(p))
	}
	if same := checkPairs(t, list); same <= len(list) {
		t.Errorf("%d pairs of %d programs are the same", same, len(list))
	}
}

func TestPromise53NilAndEmpty(t *testing.T) {
	a := impl.Program{Procs: []impl.Proc{{Name: "f", Body: nodes(impl.Node{Kind: 5, Name: "f"}, ifNode("x", nil, nil), haltNode)}}}
	b := impl.Program{Data: []int{}, Procs: []impl.Proc{{Name: "f", Takes: []string{}, Gives: []string{}, Body: []impl.Node{
		{Kind: 5, Name: "f", Terms: []impl.Term{}, Names: []string{}, Body: []impl.Node{}, Else: []impl.Node{}},
		{Kind: 6, Terms: []impl.Term{{Kind: 1, Text: "x", Kids: []impl.Term{}}}, Names: []string{}, Body: []impl.Node{}, Else: []impl.Node{}},
		{Kind: 12, Terms: []impl.Term{}, Names: []string{}, Body: []impl.Node{}, Else: []impl.Node{}},
	}}}}
	if !impl.ProgSame(a, b) || !impl.ProgSame(b, a) || impl.ProgText(a) != impl.ProgText(b) || impl.ProgSize(b) != 3 {
		t.Error("nil and empty lists are not the same")
	}
	empty := impl.Program{Procs: []impl.Proc{{Name: "f", Body: []impl.Node{}}}}
	if other := (impl.Program{Procs: []impl.Proc{{Name: "f"}}}); !impl.ProgSame(empty, other) || !impl.ProgSame(other, empty) {
		t.Error("a body that is nil and one that is empty are not the same")
	}
}

func TestPromise53NoPrograms(t *testing.T) {
	bad := mainOf(leaveNode("k"))
	for _, p := range goodPrograms() {
		if impl.ProgSame(p, bad) || impl.ProgSame(bad, p) || !impl.ProgSame(p, copiedProgram(p)) {
			t.Errorf("ProgSame of %s", brieflyProgram(p))
		}
	}
	if impl.ProgSame(bad, bad) || impl.ProgSame(impl.Program{}, impl.Program{}) {
		t.Error("what is no program is the same as itself")
	}
}

// Promise 54: a program has a line for each node at least, one for its memory, and two for each procedure.

func TestPromise54Lines(t *testing.T) {
	for _, p := range append(somePrograms(), changedPrograms()...) {
		size, bodies := 0, 0
		eachNode(p, func(n *impl.Node) {
			size++
			bodies += min(nodeRows[n.Kind].bodies, 1) + min(len(n.Else), 1)
		})
		lines := strings.Count(impl.ProgText(p), "\n")
		if got := impl.ProgSize(p); got != size || lines < got+1+2*len(p.Procs) || lines != size+bodies+1+2*len(p.Procs) {
			t.Errorf("%s: ProgSize %d, not %d, and %d lines", brieflyProgram(p), got, size, lines)
		}
	}
}

func TestPromise54Sizes(t *testing.T) {
	for _, size := range []int{0, 1, 2, 3, 10, 100, 1000, 2999, 3000} {
		if got := impl.ProgSize(sizedProcs(size, 0)); got != size {
			t.Errorf("ProgSize of %d nodes = %d", size, got)
		}
	}
	for high := 1; high <= 10; high++ {
		doubled := nodes(haltNode)
		for range high {
			doubled = nodes(ifNode("x", doubled, doubled))
		}
		if got := impl.ProgSize(mainOf(doubled...)); got != 1<<(high+1)-1 {
			t.Errorf("ProgSize of bodies that are the same twice = %d", got)
		}
	}
}

// Promise 56: what is read is written as it was.

// spoiltTexts are the texts of no programs, most of them by one letter or one line.
func spoiltTexts() []string {
	whole := func(lines ...string) string {
		return "room 9\nproc main(a) (b) {\n  " + strings.Join(lines, "\n  ") + "\n}\nproc f(a) (b) {\n}\nproc g() () {\n}\n"
	}
	list := []string{
		"", " ", "\n", "\n\n", "room", "room\n", "room 0", "room 0\n", "room 0\n\n", "proc main() () {\n}\n", "room 0\nproc main() () {\n}", "room 0\nproc main() () {\n}\n\n", "room 0\nproc main() () {\n}\n ", "room 0\nproc main() () {\n}\n}\n",
		"\nroom 0\nproc main() () {\n}\n", " room 0\nproc main() () {\n}\n", "room 0\n\nproc main() () {\n}\n", "room 0\nproc main() () {\n\n}\n", "room 0\n proc main() () {\n}\n", "room 0\nproc main() () {\n }\n", "room 0\nproc main() () {\n", "room 0\nproc main() () {", "room 0\nproc main() () {}\n", "room 0\nproc main() () { }\n",
		"room 0\r\nproc main() () {\r\n}\r\n", "room 0\nproc main() () {\n} else {\n}\n", "room 0\nproc main() () {\n} else {\n  halt\n}\n", "room 0\nproc main() () {\n}\nroom 0\n", "room 0\nroom 0\nproc main() () {\n}\n", "room 0\nhalt\nproc main() () {\n}\n", "room 0\nproc main() () {\n}\nhalt\n",
	}
	for _, room := range strings.Split("room|room |room  0|room 0 |room\t0|Room 0|rooms 0|room0|room 00|room 01|room 064|room -1|room -0|room +0|room +4|room 65|room 064|room 100|room 256|room 0 0|room 0 1|room 1 1 1|room 4 01|room 4 00|room 4 -1|room 4 -0|room 4 +1|room 4 256|room 4 1000|room 4  1|room 4 1 |room 4 1  2|room 4 1 2 3 4 5|room 4,1|room 4 1, 2|room 4, 1 2|room x|room 4 x|room 4 1x|room 0x4|room 4.0|room 4 1.5|room 1e1|room 18446744073709551616|room 18446744073709551617 1|room 4 18446744073709551617|room 9223372036854775808|room 4 4294967296", "|") {
		list = append(list, room+"\nproc main() () {\n}\n")
	}
	for _, proc := range strings.Split("proc main() ()|proc main() (){|proc main()() {|proc main ()  () {|proc main () () {|proc  main() () {|proc main()  () {|proc main() ()  {|proc main() () { |proc main() () {{|proc main( ) () {|proc main() ( ) {|proc main(a ) () {|proc main( a) () {|proc main() (a ) {|proc main(a,b) () {|proc main() (a,b) {|proc main(a,  b) () {|proc main(a , b) () {|proc main(a b) () {|proc main(a;b) () {|proc main(a,) () {|proc main(a, ) () {|proc main(,) () {|proc main(, a) () {|proc main(a, , b) () {|proc main(a, a) () {|proc main() (a, a) {|proc main(1) () {|proc main() (1) {|proc main(A) () {|proc main(a+b) () {|proc main(in) () {|proc main() (halt) {|proc main((a)) () {|proc main[] () {|proc main() [] {|proc main() {|proc main {|proc () () {|proc () {|proc proc() () {|proc word() () {|proc 9() () {|proc Main() () {|proc abcdefghi() () {|proc main(abcdefghi) () {|proc main(a, b, c, d, e, f, g, h, i) () {|proc main() (a, b, c, d, e, f, g, h, i) {|procmain() () {|Proc main() () {|main() () {|proc main() () ()  {|proc main() () = {", "|") {
		list = append(list, "room 0\n"+proc+"\n}\n", "room 0\nproc first() () {\n}\n"+proc+"\n}\n")
	}
	for _, line := range strings.Split("|x|x =|x = |x= 5|x =5|x=5|x  = 5|x =  5|x = 5 | x = 5|  x = 5|\tx = 5|x == 5|x := 5|x = 05|x = 65536|x = -1|x = word|x = (a+b)|x = (a + b|x = a + b|x = ((a + b))|x, y = 5|x = y = 5|x = 5, 6|5 = x|X = 5|word = 5|(x) = 5|x = 5; y = 6|abcdefghi = 5|x = 5 {|= 5", "|") {
		list = append(list, whole(line), whole("out 1", line, "out 2"))
	}
	for _, line := range strings.Split("word[a]= 5|word[a] =5|word [a] = 5|word[ a] = 5|word[a ] = 5|word[] = 5|word[a] = |word[a]|word[a] = |word(a) = 5|word[a = 5|worda] = 5|words[a] = 5|x[a] = 5|word[a][b] = 5|word[a] = 5 |word[a, b] = 5|word[a] = (b|word[(a] = b)|byte[a]= 5|byte[] = 5|byte[a] = |byte[a]|byte[a)] = 5|Byte[a] = 5|word[byte] = 5|byte[word] = 5|out|out |out a |out  a|out(a)|outa|out a b|out a, b|out (a)|out out|Out a|out 01|out x = 5|in|in |in 5|in x |in  x|inx|in x, y|in (x)|in in|in out|in X|in x = 5|in abcdefghi|back |back 1|back x|backs|back back|Back| back|halt |halt 1|halts|Halt|hal|halt halt|halt; halt", "|") {
		list = append(list, whole(line), whole("out 1", line, "out 2"))
	}
	for _, line := range strings.Split("b = f(|b = f(a|b = f()|b = f(a, a)|b = f(a,)|b = f(a, )|b = f( a)|b = f(a )|b = f(a) |b= f(a)|b =f(a)|b = f (a)|b  = f(a)|b = f((a)|b = f(a))|b = f(a;)|b = f[a]|b = f(word)|b = f(A)|b = h(a)|b = h()|b = F(a)|b = (a)|b = f(a) {|f(a)|= f(a)| = f(a)|b, c = f(a)|b, b = f(a)|b,  = f(a)|b,= f(a)|, b = f(a)|5 = f(a)|B = f(a)|in = f(a)|b = c = f(a)|b c = f(a)|b = f(a), 5|g()|= g()|  = g()| = g( )| =  g()| = g(a)|a = g()| = g()  | = g| = h()| = g() = g()|b = f(a)f(a)", "|") {
		list = append(list, whole(line), whole("out 1", line, "out 2"))
	}
	for _, lines := range strings.Split("if x {|if x\n}|if x{\n}|if x  {\n}|if  x {\n}|if {\n}|if  {\n}|ifx {\n}|if (x) {\n}|If x {\n}|if x y {\n}|if x, y {\n}|if x {}|if x { }|if x { halt }|if x {\n  }|if x {\n }|if x {\nhalt\n}|if x {\n halt\n}|if x {\n   halt\n}|if x {\n    halt\n}|if x {\n  halt\n  }|if x {\n  halt|if x {\n\n}|if x {\n  \n}|if x {\n} else {\n}|if x {\n  halt\n} else {\n}|if x {\n} else {\n  halt|if x {\n} else\n  halt\n}|if x {\n}else {\n  halt\n}|if x {\n} else{\n  halt\n}|if x {\n}  else {\n  halt\n}|if x {\n} else  {\n  halt\n}|if x {\n}\nelse {\n  halt\n}|if x {\n} else if y {\n  halt\n}|if x {\n  } else {\n  halt\n}|if x {\n} else {\nhalt\n}|if x {\n} else {\n  halt\n} else {\n  halt\n}|if x {\n} Else {\n  halt\n}|if x {\n} else {\n  halt\n  }|if x {\n} else {\n    halt\n}|if x {\n}\n}|if x {\n} |if x {\n};|else {\n}|} else {\n  halt|{\n}|}|}\n}", "|") {
		list = append(list, whole(strings.Split(lines, "\n")...), whole(append([]string{"out 1"}, append(strings.Split(lines, "\n"), "out 2")...)...))
	}
	for _, lines := range strings.Split("K {\n}|K k\n}|K k{\n}|K k  {\n}|K  k {\n}|K {\n}|Kk {\n}|K k {|K k {}|K k { }|K k, j {\n}|K 5 {\n}|K K {\n}|K word {\n}|K abcdefghi {\n}|K (k) {\n}|K k {\nhalt\n}|K k {\n halt\n}|K k {\n  halt\n} else {\n  halt\n}|K k {\n} else {\n  halt\n}|K k {\n} else {\n}|K k {\n  leave j\n}|K k {\n  leave\n}|K k {\n  leave \n}|K k {\n  leave  k\n}|K k {\n  leave k \n}|K k {\n  leavek\n}|K k {\n  leave k j\n}|K k {\n  Leave k\n}|K k {\n}\nleave k|leave k\nK k {\n}|K k {\n  K k {\n  }\n}|K k {\n  again j\n}|K k {\n  again\n}|K k {\n  again  k\n}|K k {\n  again k \n}|K k {\n  againk\n}|K k {\n}\nagain k|K j {\n  K k {\n  }\n  leave k\n}|K k {\n  leave k\n  }|K k {\n  leave k\n}\n}", "|") {
		for _, word := range []string{"loop", "block"} {
			text := strings.ReplaceAll(strings.ReplaceAll(lines, "K k", word+" k"), "K ", word+" ")
			list = append(list, whole(strings.Split(strings.ReplaceAll(text, "Kk", word+"k"), "\n")...))
		}
	}
	return append(list, whole("block k {", "  again k", "}"), whole("loop j {", "  block k {", "    again k", "  }", "}"))
}

func TestPromise56NoTexts(t *testing.T) {
	for _, text := range spoiltTexts() {
		if _, ok := wantReadProgram(text); ok {
			t.Errorf("%q is the text of a program", text)
		}
		checkNoProgramText(t, text)
	}
}

// longTexts have much of what there may be little of.
func longTexts() []string {
	long := 1000000
	list := []string{
		strings.Repeat(" ", long), strings.Repeat("\n", long), strings.Repeat("room 0\n", long/10), "room" + strings.Repeat(" 1", long) + "\nproc main() () {\n}\n", "room 64" + strings.Repeat(" 0", 65) + "\nproc main() () {\n}\n",
		"room " + strings.Repeat("9", long) + "\nproc main() () {\n}\n", "room " + strings.Repeat("0", long) + "\nproc main() () {\n}\n", "room 0\nproc " + strings.Repeat("a", long) + "() () {\n}\n",
		"room 0\n" + strings.Repeat("proc main() () {\n}\n", long/10), "room 0\nproc main(" + strings.Repeat("a, ", long) + "b) () {\n}\n", "room 0\nproc main() (" + strings.Repeat("a, ", long) + "b) {\n}\n",
		"room 0\nproc main() () {\n" + strings.Repeat("  halt\n", long) + "}\n", "room 0\nproc main() () {\n" + strings.Repeat("  ", long), "room 0\nproc main() () {\n" + strings.Repeat("  if x {\n", long),
		"room 0\nproc main() () {\n" + strings.Repeat("  out ", long), "room 0\nproc main() () {\n  out " + strings.Repeat("(", long) + "\n}\n", "room 0\nproc main() () {\n  out " + strings.Repeat("!", long) + "0\n}\n",
		"room 0\nproc main() () {\n  x = main(" + strings.Repeat("1, ", long) + "1)\n}\n", "room 0\nproc main() () {\n  " + strings.Repeat("x, ", long) + "x = main()\n}\n", "room 0\nproc main() () {\n  " + strings.Repeat("x", long) + " = 5\n}\n",
	}
	deep := "room 0\nproc main() () {\n"
	for k := range 1000 {
		deep += strings.Repeat("  ", k+1) + "loop n" + strconv.Itoa(k) + " {\n"
	}
	return append(list, deep)
}

func TestPromise56LongTexts(t *testing.T) {
	for _, text := range longTexts() {
		checkNoProgramText(t, text)
	}
	for _, p := range largestPrograms() {
		text := wantProgText(p)
		if got, ok := impl.ProgRead(text); !ok || !alikePrograms(got, p) || impl.ProgText(got) != text {
			t.Errorf("ProgRead of %s = %s, %t", brieflyProgram(p), brieflyProgram(got), ok)
		}
		checkNoProgramText(t, text+"\n")
		checkNoProgramText(t, text[:len(text)-1])
		checkNoProgramText(t, text+text)
	}
}

// The texts of what is too large are written as those of programs are.
func TestPromise56TextsOfTooMuch(t *testing.T) {
	names := strings.Fields("a b c d e f g h i j k l m")
	var many impl.Program
	for _, name := range names {
		many.Procs = append(many.Procs, impl.Proc{Name: name})
	}
	list := []impl.Program{many, sizedProcs(3001), sizedProcs(1500, 1501), {Procs: []impl.Proc{{Name: "f", Takes: names[:9]}}}, {Procs: []impl.Proc{{Name: "f", Gives: names[:9]}}},
		{Procs: []impl.Proc{{Name: "f"}}, Room: 65}, {Procs: []impl.Proc{{Name: "f"}}, Room: 65, Data: make([]int, 65)}, {Procs: []impl.Proc{{Name: "f"}}, Room: 1, Data: []int{1, 2}}}
	for _, of := range nesters() {
		list = append(list, mainOf(nested(61, of)...), mainOf(nested(61, of, haltNode)...), mainOf(nested(62, of, haltNode)...), mainOf(nested(200, of, haltNode)...))
	}
	for _, x := range tooLargeTerms() {
		list = append(list, mainOf(impl.Node{Kind: 3, Terms: []impl.Term{x}}))
	}
	for k, p := range list {
		if wantProgram(p) {
			t.Errorf("%d is a program", k)
		}
		checkNoProgramText(t, wantProgText(p))
	}
}

func TestPromise56OneLetterMore(t *testing.T) {
	letters := "ab0 9k(){}[]!=+,<\n\t-\x00\xff"
	taken, refused := 0, 0
	for _, p := range basePrograms() {
		whole := wantProgText(p)
		for k := range len(whole) + 1 {
			ahead, behind := whole[:k], whole[k:]
			texts := []string{ahead, behind}
			for _, letter := range []byte(letters) {
				texts = append(texts, ahead+string([]byte{letter})+behind)
				if behind != "" {
					texts = append(texts, ahead+string([]byte{letter})+behind[1:])
				}
			}
			if behind != "" {
				texts = append(texts, ahead+behind[1:], ahead+behind[:1]+behind)
			}
			for _, text := range texts {
				if checkReadProgram(t, text) {
					taken++
				} else {
					refused++
				}
			}
		}
	}
	if taken < 300 || refused < 15000 {
		t.Errorf("%d texts were taken, and %d refused", taken, refused)
	}
}

func TestPromise56OneLineMore(t *testing.T) {
	taken, refused := 0, 0
	for _, p := range basePrograms() {
		lines := strings.SplitAfter(wantProgText(p), "\n")
		lines = lines[:len(lines)-1]
		var others []string
		for _, line := range slices.Concat(lines, []string{"\n", "  halt\n", "    back\n", "  }\n", "} else {\n", "  } else {\n", "room 9\n", "proc z() () {\n", "  x = 5\n", "  loop z {\n", "    leave k\n"}) {
			others = append(others, line, "  "+line, " "+line, strings.TrimPrefix(line, "  "), strings.TrimPrefix(line, " "))
		}
		slices.Sort(others)
		others = slices.Compact(others)
		for k := range lines {
			texts := []string{strings.Join(slices.Concat(lines[:k], lines[k+1:]), ""), strings.Join(slices.Concat(lines[:k], lines[k:k+1], lines[k:]), "")}
			for _, other := range others {
				texts = append(texts, strings.Join(slices.Concat(lines[:k], []string{other}, lines[k:]), ""), strings.Join(slices.Concat(lines[:k], []string{other}, lines[k+1:]), ""))
			}
			for _, text := range texts {
				if checkReadProgram(t, text) {
					taken++
				} else {
					refused++
				}
			}
		}
	}
	if taken < 200 || refused < 4000 {
		t.Errorf("%d texts were taken, and %d refused", taken, refused)
	}
}

// drawnLines has lines that may stand in a program, some of them in no order.
func (l *lot) drawnLines() string {
	text := "room " + strconv.Itoa(l.oneOf(0, 1, 64)) + "\n"
	for range 1 + l.next(2) {
		text += "proc " + []string{"main", "f", "f"}[l.next(3)] + "() () {\n"
		deep := 1
		for range l.next(5) {
			line := strings.Split("halt|x = 5|out x| = f()|if x {|loop k {|block k {|loop j {|} else {|}|leave k|again k|leave j", "|")[l.next(13)]
			if strings.HasPrefix(line, "}") && deep > 1 {
				deep--
			}
			text += strings.Repeat("  ", max(deep-l.next(20)/19, 0)) + line + "\n"
			if strings.HasSuffix(line, "{") {
				deep++
			}
		}
		for l.next(12) > 0 && deep > 0 {
			deep--
			text += strings.Repeat("  ", deep) + "}\n"
		}
	}
	return text
}

func TestPromise56DrawnLines(t *testing.T) {
	l := &lot{state: 56}
	taken, refused := 0, 0
	for range 30000 {
		if checkReadProgram(t, l.drawnLines()) {
			taken++
		} else {
			refused++
		}
	}
	if taken < 3000 || refused < 3000 {
		t.Errorf("%d texts were taken, and %d refused", taken, refused)
	}
}

func TestPromise56PiecesOfTexts(t *testing.T) {
	l := &lot{state: 65}
	for _, p := range drawnPrograms(200) {
		text := wantProgText(p)
		if !checkReadProgram(t, text) {
			t.Errorf("%s is told to be none", brieflyProgram(p))
		}
		for range 10 {
			from := l.next(len(text) + 1)
			to := from + l.next(len(text)-from+1)
			checkReadProgram(t, text[:from]+text[to:])
			checkReadProgram(t, text[:to]+text[from:])
			checkReadProgram(t, text[from:to])
		}
	}
}

// What is returned is new, and what is told stays.

// cellsOfList has the places in memory of a list, also those behind its end.
func cellsOfList[T any](list []T) []any {
	var cells []any
	whole := list[:cap(list)]
	for k := range whole {
		cells = append(cells, &whole[k])
	}
	return cells
}

func cellsOfNodes(list []impl.Node) []any {
	cells := cellsOfList(list)
	for _, n := range list {
		cells = slices.Concat(cells, cellsOfList(n.Terms), cellsOfList(n.Names), cellsOfNodes(n.Body), cellsOfNodes(n.Else))
		for _, x := range n.Terms {
			for _, cell := range cellsOf(x) {
				cells = append(cells, cell)
			}
		}
	}
	return cells
}

func cellsOfProgram(p impl.Program) []any {
	cells := append(cellsOfList(p.Procs), cellsOfList(p.Data)...)
	for _, proc := range p.Procs {
		cells = slices.Concat(cells, cellsOfList(proc.Takes), cellsOfList(proc.Gives), cellsOfNodes(proc.Body))
	}
	return cells
}

// spoilCells changes all that there is in memory at some places.
func spoilCells(cells []any) {
	for _, cell := range cells {
		switch cell := cell.(type) {
		case *int:
			*cell = 77777
		case *string:
			*cell = "spoilt"
		case *impl.Term:
			*cell = impl.Term{Kind: 88}
		case *impl.Node:
			*cell = impl.Node{Kind: 88}
		case *impl.Proc:
			*cell = impl.Proc{Name: "spoilt"}
		}
	}
}

func TestProgReadSharesNothing(t *testing.T) {
	for _, want := range slices.Concat(basePrograms(), drawnPrograms(300), largestPrograms()) {
		text := wantProgText(want)
		first, _ := impl.ProgRead(text)
		second, _ := impl.ProgRead(text)
		seen := map[any]bool{}
		for _, cell := range append(cellsOfProgram(first), cellsOfProgram(second)...) {
			if seen[cell] {
				t.Errorf("what %s is read as shares memory", brieflyProgram(want))
				break
			}
			seen[cell] = true
		}
		spoilCells(cellsOfProgram(first))
		if third, ok := impl.ProgRead(text); !alikePrograms(second, want) || !ok || !alikePrograms(third, want) {
			t.Errorf("what %s is read as shares memory", brieflyProgram(want))
		}
	}
}

// guardedList has the same items as a list, and another one behind its end.
func guardedList[T any](list []T, guard T) []T {
	return append(slices.Clone(list), guard)[:len(list)]
}

func guardedNodes(list []impl.Node) []impl.Node {
	made := guardedList(list, impl.Node{Kind: 77})
	for k, n := range made {
		var terms []impl.Term
		for _, x := range n.Terms {
			terms = append(terms, guardedTerm(x))
		}
		made[k].Terms, made[k].Names = guardedList(terms, impl.Term{Kind: 77}), guardedList(n.Names, "guard")
		made[k].Body, made[k].Else = guardedNodes(n.Body), guardedNodes(n.Else)
	}
	return made
}

func guardedProgram(p impl.Program) impl.Program {
	p.Procs, p.Data = guardedList(p.Procs, impl.Proc{Name: "guard"}), guardedList(p.Data, 77)
	for k, proc := range p.Procs {
		p.Procs[k] = impl.Proc{Name: proc.Name, Takes: guardedList(proc.Takes, "guard"), Gives: guardedList(proc.Gives, "guard"), Body: guardedNodes(proc.Body)}
	}
	return p
}

func isGuardedList[T any](list []T, is func(item T) bool) bool {
	return is(list[:len(list)+1][len(list)])
}

func isGuardText(text string) bool {
	return text == "guard"
}

func areGuardedNodes(list []impl.Node) bool {
	for _, n := range list {
		if !isGuardedList(n.Terms, func(x impl.Term) bool { return x.Kind == 77 }) || slices.ContainsFunc(n.Terms, func(x impl.Term) bool { return !isGuardedTerm(x) }) {
			return false
		}
		if !isGuardedList(n.Names, isGuardText) || !areGuardedNodes(n.Body) || !areGuardedNodes(n.Else) {
			return false
		}
	}
	return isGuardedList(list, func(n impl.Node) bool { return n.Kind == 77 })
}

func isGuardedProgram(p impl.Program) bool {
	for _, proc := range p.Procs {
		if !isGuardedList(proc.Takes, isGuardText) || !isGuardedList(proc.Gives, isGuardText) || !areGuardedNodes(proc.Body) {
			return false
		}
	}
	return isGuardedList(p.Procs, func(proc impl.Proc) bool { return proc.Name == "guard" }) && isGuardedList(p.Data, func(n int) bool { return n == 77 })
}

func TestProgramsAreNotChanged(t *testing.T) {
	list := slices.Concat(goodPrograms(), changedPrograms(), drawnPrograms(200), []impl.Program{{}, mainOf(leaveNode("k")), mainOf(loopNode("k", loopNode("k"))), mainOf(impl.Node{Kind: 3}), mainOf(impl.Node{Kind: 13}), sizedProcs(3001), mainOf(nested(61, nesters()[0])...)})
	other := guardedProgram(basePrograms()[0])
	for _, p := range list {
		guarded, copied := guardedProgram(p), copiedProgram(p)
		for range 2 {
			ok := impl.ProgOk(guarded)
			size, text := impl.ProgSize(guarded), impl.ProgText(guarded)
			impl.ProgSame(guarded, other)
			impl.ProgSame(other, guarded)
			if impl.ProgSame(guarded, copied) != ok || impl.ProgSame(copied, guarded) != ok || (size >= 0) != ok || (text != "") != ok || ok != wantProgram(p) {
				t.Errorf("%s is told in different ways", brieflyProgram(p))
			}
		}
		if !alikePrograms(guarded, p) || !isGuardedProgram(guarded) || !isGuardedProgram(other) || !alikePrograms(other, basePrograms()[0]) {
			t.Errorf("%s was changed", brieflyProgram(p))
		}
	}
}

// The parts of a program may share memory.
func TestProgramsOfPartsInCommon(t *testing.T) {
	names := []string{"a", "b"}
	body := nodes(setNode("a", "(a + b)"), impl.Node{Kind: 5, Name: "f", Terms: termsOf("1", "2"), Names: names})
	p := impl.Program{Procs: []impl.Proc{
		{Name: "f", Takes: names, Gives: names, Body: append(nodes(ifNode("a", body, body), loopNode("a", body...)), body...)},
		{Name: "g", Takes: names, Gives: names[:1], Body: body},
	}}
	kept := copiedProgram(p)
	checkProgram(t, p)
	if !alikePrograms(p, kept) || impl.ProgSize(p) != 12 {
		t.Errorf("%s was changed, or has the size %d", brieflyProgram(p), impl.ProgSize(p))
	}
}
