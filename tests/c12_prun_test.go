package tests

import (
	"math"
	"slices"
	"strconv"
	"strings"
	"testing"

	"loop.example/liftedcode/impl"
)

// shortProgram is the program of a text with ; for the ends of lines, without what stands ahead of them, and without the line of memory, which is that of memoryOf.
// If there are just nodes, they are those of the only procedure.
func shortProgram(short string) impl.Program {
	if !strings.HasPrefix(short, "proc ") {
		short = "proc main() () {; " + short + "; }"
	}
	text := "room 6 1 2 255 128\n"
	deep := 0
	for _, line := range strings.Split(short, ";") {
		line = strings.TrimSpace(line)
		if line == "" {
			continue
		}
		if line[0] == '}' {
			deep--
		}
		if line[0] == '=' {
			line = " " + line
		}
		text += strings.Repeat("  ", deep) + line + "\n"
		if strings.HasSuffix(line, "{") {
			deep++
		}
	}
	p, ok := wantReadProgram(text)
	if !ok {
		panic(text + " is the text of no program")
	}
	return p
}

// playedOf is what both functions of chapter 12 tell of a run. No places are told.
func playedOf(p impl.Program, in []int, fuel int) told {
	r := impl.RunProg(p, in, fuel)
	return told{end: r.End, out: r.Out, mem: r.Mem, steps: impl.PlaySteps(p, in, fuel)}
}

// playModel is a second reading of chapter 12: it has the calls that wait for each other, and of each one the bodies that were begun, and does one thing after the other.
type playModel struct {
	program impl.Program
	calls   []*begunCall
	in      []int
	fuel    int
	told
	// kinds counts the nodes that were begun, by their kinds.
	kinds map[int]int
}

// begunCall has the variables of a call, and which ones of the call that waits for it are set at its end.
type begunCall struct {
	proc   impl.Proc
	names  []string
	vars   []impl.Var
	bodies []*begunBody
}

// begunBody is a body with the number of the node that is begun next. The body of a procedure is that of a node of no kind.
type begunBody struct {
	owner impl.Node
	list  []impl.Node
	next  int
}

func wantPlay(p impl.Program, in []int, fuel int) *playModel {
	w := &playModel{program: p, in: in, fuel: fuel, kinds: map[int]int{}}
	w.mem = append(slices.Clone(p.Data), zeros(p.Room-len(p.Data))...)
	w.end = goesOn
	w.call(p.Procs[0], zeros(len(p.Procs[0].Takes)), nil)
	for w.end == goesOn {
		w.goOn(w.calls[len(w.calls)-1])
	}
	return w
}

func (w *playModel) call(proc impl.Proc, words []int, names []string) {
	c := &begunCall{proc: proc, names: names}
	for k, name := range proc.Takes {
		c.set(name, words[k])
	}
	c.open(impl.Node{Kind: -1}, proc.Body)
	w.calls = append(w.calls, c)
}

func (c *begunCall) set(name string, word int) {
	k := slices.IndexFunc(c.vars, func(v impl.Var) bool { return v.Name == name })
	if k < 0 {
		c.vars = append(c.vars, impl.Var{Name: name})
		k = len(c.vars) - 1
	}
	c.vars[k].Num = word
}

func (c *begunCall) open(owner impl.Node, list []impl.Node) {
	c.bodies = append(c.bodies, &begunBody{owner: owner, list: list})
}

// close closes bodies up to that of the node of a label, but for this one itself.
func (c *begunCall) close(label string) *begunBody {
	for {
		last := c.bodies[len(c.bodies)-1]
		if last.owner.Kind != 5 && last.owner.Name == label {
			return last
		}
		c.bodies = c.bodies[:len(c.bodies)-1]
	}
}

// pays takes one of the fuel; false if there is none.
func (w *playModel) pays() bool {
	if w.steps >= w.fuel {
		w.end = impl.EndCut
		return false
	}
	w.steps++
	return true
}

func (w *playModel) goOn(c *begunCall) {
	if len(c.bodies) == 0 {
		w.giveBack(c)
		return
	}
	b := c.bodies[len(c.bodies)-1]
	switch {
	case b.next < len(b.list):
		b.next++
		w.begin(c, b.list[b.next-1])
	case b.owner.Kind != 7:
		c.bodies = c.bodies[:len(c.bodies)-1]
	case w.pays():
		b.next = 0
	}
}

func (w *playModel) giveBack(c *begunCall) {
	w.calls = w.calls[:len(w.calls)-1]
	if len(w.calls) == 0 {
		w.end = impl.EndHalt
		return
	}
	for k, name := range c.names {
		word, _ := scope{vars: c.vars}.want(named(c.proc.Gives[k]))
		w.calls[len(w.calls)-1].set(name, word)
	}
}

func (w *playModel) begin(c *begunCall, n impl.Node) {
	if !w.pays() {
		return
	}
	w.kinds[n.Kind]++
	var words []int
	for _, x := range n.Terms {
		word, ok := scope{vars: c.vars, mem: w.mem}.want(x)
		if !ok {
			w.end = impl.EndTrap
			return
		}
		words = append(words, word)
	}
	switch n.Kind {
	case 0:
		c.set(n.Name, words[0])
	case 1, 2:
		w.store(words[0], words[1], 3-n.Kind)
	case 3:
		if len(w.out) == 60 {
			w.end = impl.EndCut
			return
		}
		w.out = append(w.out, words[0])
	case 4:
		c.set(n.Name, append(slices.Clone(w.in), 0)[0])
		w.in = w.in[min(1, len(w.in)):]
	case 5:
		w.beginCall(n, words)
	default:
		w.beginElsewhere(c, n, words)
	}
}

func (w *playModel) store(at int, word int, count int) {
	if at+count > len(w.mem) {
		w.end = impl.EndTrap
		return
	}
	for k := range count {
		w.mem[at+k] = int(uint8(word >> (8 * k)))
	}
}

func (w *playModel) beginCall(n impl.Node, words []int) {
	if len(w.calls) == 60 {
		w.end = impl.EndCut
		return
	}
	k := slices.IndexFunc(w.program.Procs, func(proc impl.Proc) bool { return proc.Name == n.Name })
	w.call(w.program.Procs[k], words, n.Names)
}

func (w *playModel) beginElsewhere(c *begunCall, n impl.Node, words []int) {
	switch n.Kind {
	case 6:
		if words[0] == 0 {
			n.Body = n.Else
		}
		c.open(n, n.Body)
	case 7, 8:
		c.open(n, n.Body)
	case 9:
		c.close(n.Name)
		c.bodies = c.bodies[:len(c.bodies)-1]
	case 10:
		b := c.close(n.Name)
		b.next = len(b.list)
	case 11:
		c.bodies = nil
	case 12:
		w.end = impl.EndHalt
	}
}

// checkPlay compares a run with the second reading of chapter 12, and returns this.
func checkPlay(t *testing.T, p impl.Program, in []int, fuel int) *playModel {
	t.Helper()
	got, want := playedOf(p, in, fuel), wantPlay(p, in, fuel)
	if !sameTold(got, want.told) {
		t.Errorf("a run of %s, asking for %v, with a fuel of %d tells %v, not %v", brieflyProgram(p), in, fuel, got, want.told)
	}
	return want
}

// left is what a run tells that halts, and leaves other memory.
func left(out []int, steps int, mem ...int) told {
	return told{end: impl.EndHalt, out: out, mem: memoryOf(mem...), steps: steps}
}

// The plays of programs are written out by hand from chapter 12.

func playsOfVariables() []play {
	return []play{
		{"", nil, 9, halted(nil, 0)},
		{"out x", nil, 9, halted([]int{0}, 1)},
		{"x = 5; out x; x = (x + 1); out x; x = x; out x", nil, 9, halted([]int{5, 6, 6}, 6)},
		{"a = 3; b = a; a = 4; out b; out a", nil, 9, halted([]int{3, 4}, 5)},
		{"x = 65535; x = (x + 2); out x", nil, 9, halted([]int{1}, 3)},
		{"in x; in y; in x; out x; out y", []int{7, 8, 9}, 9, halted([]int{9, 8}, 5)},
		{"in x; x = (x + x); out x", []int{3}, 9, halted([]int{6}, 3)},
		// What the first procedure takes is 0.
		{"proc main(a, b) () {; out a; out b; out (a + 1); }", nil, 9, halted([]int{0, 0, 1}, 3)},
		{"proc main(a) (a, b) {; a = (a + 7); out a; out b; }", nil, 9, halted([]int{7, 0}, 3)},
		// Each call has variables of its own.
		{"proc main() () {; a = 1; b = f(5); out a; out b; }; proc f(x) (y) {; a = x; y = a; }", nil, 9, halted([]int{1, 5}, 6)},
		{"proc main() () {; a = 1; b = f(); out b; }; proc f() (y) {; y = a; }", nil, 9, halted([]int{0}, 4)},
		{"proc main() () {; a = 1; b = f(7); out a; out b; }; proc f(a) (b) {; a = (a + 1); b = a; }", nil, 9, halted([]int{1, 8}, 6)},
		{"proc main() () {; x = f(3); x = f(4); out x; }; proc f(a) (n) {; n = (n + a); }", nil, 9, halted([]int{4}, 5)},
		{"proc main() () {; = f(1); = f(0); }; proc f(a) () {; if a {; x = 5; }; out x; }", nil, 9, halted([]int{5, 0}, 7)},
		// What is taken and given; what is given without having been set, and set in another call.
		{"proc main() () {; x = f(4); out x; }; proc f(a) (a) {; a = (a * 2); }", nil, 9, halted([]int{8}, 3)},
		{"proc main() () {; x = f(4); out x; }; proc f(a) (a) {; }", nil, 9, halted([]int{4}, 2)},
		{"proc main() () {; x = 9; x = f(); out x; }; proc f() (b) {; }", nil, 9, halted([]int{0}, 3)},
		{"proc main() () {; x = f(1); y = f(0); out x; out y; }; proc f(a) (b) {; if a {; b = 7; }; }", nil, 9, halted([]int{7, 0}, 7)},
		{"proc main() () {; x = f(0); y = f(1); z = f(0); out x; out y; out z; }; proc f(a) (b) {; if a {; b = 7; }; }", nil, 20, halted([]int{0, 7, 0}, 10)},
		// In order, whatever the names are.
		{"proc main() () {; b, a = f(); out a; out b; }; proc f() (a, b) {; a = 1; b = 2; }", nil, 9, halted([]int{2, 1}, 5)},
		{"proc main() () {; a, b = f(1, 2); out a; out b; }; proc f(b, a) (a, b) {; }", nil, 9, halted([]int{2, 1}, 3)},
		{"proc main() () {; a = 1; b = 2; a, b = f(b, a); out a; out b; }; proc f(a, b) (a, b) {; }", nil, 9, halted([]int{2, 1}, 5)},
		{"proc main() () {; a = 1; b = 2; b, a = f(a, b); out a; out b; }; proc f(a, b) (b, a) {; }", nil, 9, halted([]int{1, 2}, 5)},
		{"proc main() () {; x = 5; x, y = f((x + 1), x); out x; out y; }; proc f(a, b) (b, a) {; }", nil, 9, halted([]int{5, 6}, 4)},
		{"proc main() () {; x = 2; x = f((x * x)); out x; }; proc f(a) (b) {; b = (a + 1); }", nil, 9, halted([]int{5}, 4)},
		{"proc main() () {; h, g, f, e, d, c, b, a = f(1, 2, 3, 4, 5, 6, 7, 8); out a; out h; out d; }; proc f(a, b, c, d, e, f, g, h) (a, b, c, d, e, f, g, h) {; out e; }", nil, 9, halted([]int{5, 8, 1, 5}, 5)},
		// Variables, labels and procedures of one name have nothing to do with each other.
		{"proc k(k) (k) {; loop k {; k = (k + 1); if (k == 3) {; leave k; }; }; out k; }", nil, 20, halted([]int{3}, 11)},
		{"proc f(a) (f) {; f = 4; if !a {; f = f(f); }; out f; }", nil, 9, halted([]int{4, 4}, 7)},
	}
}

func playsOfStores() []play {
	return []play{
		{"word[0] = 4660", nil, 9, left(nil, 1, 52, 18)},
		{"byte[0] = 4660", nil, 9, left(nil, 1, 52)},
		{"byte[1] = 65535", nil, 9, left(nil, 1, 1, 255)},
		{"byte[1] = 256", nil, 9, left(nil, 1, 1, 0)},
		{"word[1] = 65535; word[1] = 7", nil, 9, left(nil, 2, 1, 7, 0)},
		{"word[4] = 513", nil, 9, left(nil, 1, 1, 2, 255, 128, 1, 2)},
		{"byte[5] = 300", nil, 9, left(nil, 1, 1, 2, 255, 128, 0, 44)},
		{"byte[(65535 + 1)] = 7", nil, 9, left(nil, 1, 7)},
		{"word[(x - 0)] = x", nil, 9, left(nil, 1, 0, 0)},
		// At the last byte there is no place for a word, and behind it for nothing; of a word no byte is stored then.
		{"word[5] = 4660; out 1", nil, 9, ended(impl.EndTrap, nil, 1)},
		{"word[6] = 1; out 1", nil, 9, ended(impl.EndTrap, nil, 1)},
		{"byte[6] = 1; out 1", nil, 9, ended(impl.EndTrap, nil, 1)},
		{"word[65535] = 1; out 1", nil, 9, ended(impl.EndTrap, nil, 1)},
		{"byte[65535] = 1; out 1", nil, 9, ended(impl.EndTrap, nil, 1)},
		{"out 1; byte[0] = 9; byte[32768] = 8; byte[1] = 7", nil, 9, told{impl.EndTrap, []int{1}, memoryOf(9), 3, nil}},
		// What is there is asked for.
		{"out word[0]; out word[2]; out word[4]; out byte[5]; out byte[3]", nil, 9, halted([]int{513, 33023, 0, 0, 128}, 5)},
		{"word[4] = 513; out byte[4]; out byte[5]; out word[3]", nil, 9, left([]int{1, 2, 384}, 4, 1, 2, 255, 128, 1, 2)},
		{"byte[0] = 300; out word[0]", nil, 9, left([]int{556}, 2, 44)},
		// Terms that ask for memory themselves, all of them ahead of the store.
		{"word[byte[0]] = word[0]", nil, 9, left(nil, 1, 1, 1, 2)},
		{"word[byte[1]] = word[byte[0]]", nil, 9, left(nil, 1, 1, 2, 2, 255)},
		{"byte[byte[1]] = (word[0] + 1)", nil, 9, left(nil, 1, 1, 2, 2)},
		{"word[1] = word[0]; out word[1]", nil, 9, left([]int{513}, 2, 1, 1, 2)},
		{"word[0] = byte[0]; word[byte[1]] = (word[0] + word[2])", nil, 9, left(nil, 2, 0, 129, 255)},
		// There is one memory for all calls.
		{"proc main() () {; byte[0] = 9; x = f(0); out x; out byte[1]; }; proc f(p) (a) {; a = byte[p]; byte[1] = 8; }", nil, 9, left([]int{9, 8}, 6, 9, 8)},
	}
}

func playsOfTraps() []play {
	trapped := func(steps int, out ...int) told { return ended(impl.EndTrap, out, steps) }
	return []play{
		{"x = byte[6]; out 1", nil, 9, trapped(1)},
		{"x = word[5]; out 1", nil, 9, trapped(1)},
		{"x = word[65535]; out 1", nil, 9, trapped(1)},
		{"out byte[6]; out 1", nil, 9, trapped(1)},
		{"out 7; out word[x]; out (1 + !byte[(x + 6)]); out 1", nil, 9, trapped(3, 7, 513)},
		{"word[byte[6]] = 1; out 1", nil, 9, trapped(1)},
		{"word[0] = byte[6]; out 1", nil, 9, trapped(1)},
		{"byte[word[5]] = 1; out 1", nil, 9, trapped(1)},
		{"byte[0] = word[5]; out 1", nil, 9, trapped(1)},
		{"byte[9] = byte[9]; out 1", nil, 9, trapped(1)},
		{"if byte[6] {; out 1; }; out 2", nil, 9, trapped(1)},
		{"if byte[6] {; out 1; } else {; out 3; }; out 2", nil, 9, trapped(1)},
		{"if 1 {; if 0 {; } else {; x = byte[6]; out 1; }; }; out 2", nil, 9, trapped(3)},
		{"loop k {; out x; out byte[(x + 4)]; x = (x + 1); }", nil, 20, trapped(11, 0, 0, 1, 0, 2)},
		{"block k {; out 3; x = byte[6]; }; out 2", nil, 9, trapped(3, 3)},
		{"block k {; word[5] = 1; leave k; }; out 2", nil, 9, trapped(2)},
		{"loop k {; word[5] = 1; leave k; }; out 2", nil, 9, trapped(2)},
		{"proc main() () {; x = f(byte[6], 1); out x; }; proc f(a, b) (a) {; out 9; }", nil, 9, trapped(1)},
		{"proc main() () {; x = f(1, byte[6]); out x; }; proc f(a, b) (a) {; out 9; }", nil, 9, trapped(1)},
		{"proc main() () {; x = f(1); out x; }; proc f(a) (a) {; out 9; a = byte[6]; out 8; }", nil, 9, trapped(3, 9)},
		{"proc main() () {; x = f(1); out x; }; proc f(a) (a) {; loop k {; byte[6] = 1; back; }; }", nil, 9, trapped(3)},
		{"proc main() () {; loop k {; = f(); }; }; proc f() () {; out 9; = g(); out 8; }; proc g() () {; if word[5] {; }; }", nil, 9, trapped(5, 9)},
	}
}

func playsOfChoices() []play {
	return []play{
		{"if 1 {; out 1; } else {; out 2; }; out 3", nil, 9, halted([]int{1, 3}, 3)},
		{"if 0 {; out 1; } else {; out 2; }; out 3", nil, 9, halted([]int{2, 3}, 3)},
		{"if 65535 {; out 1; } else {; out 2; }", nil, 9, halted([]int{1}, 2)},
		{"if 256 {; out 1; } else {; out 2; }", nil, 9, halted([]int{1}, 2)},
		{"if 32768 {; out 1; } else {; out 2; }", nil, 9, halted([]int{1}, 2)},
		{"if (32768 + 32768) {; out 1; } else {; out 2; }", nil, 9, halted([]int{2}, 2)},
		{"if 1 {; out 1; }; out 3", nil, 9, halted([]int{1, 3}, 3)},
		{"if 0 {; out 1; }; out 3", nil, 9, halted([]int{3}, 2)},
		{"if 1 {; }; out 3", nil, 9, halted([]int{3}, 2)},
		{"if 0 {; }; out 3", nil, 9, halted([]int{3}, 2)},
		{"if 1 {; } else {; out 2; }; out 3", nil, 9, halted([]int{3}, 2)},
		{"if 0 {; } else {; out 2; }; out 3", nil, 9, halted([]int{2, 3}, 3)},
		{"if !x {; x = 5; out 1; } else {; out 2; }; out x", nil, 9, halted([]int{1, 5}, 4)},
		{"in x; if (x == 2) {; out 1; if (x < 2) {; out 2; } else {; out 3; }; out 4; } else {; out 5; }", []int{2}, 9, halted([]int{1, 3, 4}, 6)},
		{"in x; if (x == 2) {; out 1; if (x < 2) {; out 2; } else {; out 3; }; out 4; } else {; out 5; }", []int{1}, 9, halted([]int{5}, 3)},
		{"if 1 {; if 1 {; if 0 {; } else {; out 1; back; }; out 2; }; out 3; }; out 4", nil, 9, halted([]int{1}, 5)},
		{"if byte[4] {; out 1; } else {; out 2; }", nil, 9, halted([]int{2}, 2)},
	}
}

func playsOfLoops() []play {
	return []play{
		{"loop k {; }", nil, 9, ended(impl.EndCut, nil, 9)},
		{"loop k {; }; out 1", nil, 1, ended(impl.EndCut, nil, 1)},
		{"loop k {; }", nil, 0, ended(impl.EndCut, nil, 0)},
		{"loop k {; leave k; out 7; }; out 1", nil, 9, halted([]int{1}, 3)},
		{"loop k {; x = (x + 1); out x; if (x == 3) {; leave k; }; }; out 9", nil, 20, halted([]int{1, 2, 3, 9}, 14)},
		{"loop k {; x = (x + 1); if (x < 3) {; again k; }; leave k; out 7; }; out x", nil, 20, halted([]int{3}, 13)},
		{"loop k {; x = (x + 1); if (x == 3) {; leave k; }; again k; }; out x", nil, 20, halted([]int{3}, 13)},
		{"loop k {; if x {; leave k; }; x = 1; }", nil, 9, halted(nil, 6)},
		{"loop k {; if x {; leave k; }; x = 1; again k; }", nil, 9, halted(nil, 7)},
		// Left, and begun again, from farther within.
		{"loop k {; loop j {; leave k; }; out 1; }; out 2", nil, 9, halted([]int{2}, 4)},
		{"loop k {; x = (x + 1); loop j {; if (x == 2) {; leave k; }; again k; }; out 7; }; out x", nil, 20, halted([]int{2}, 11)},
		{"loop k {; x = (x + 1); loop j {; if (x == 2) {; leave k; }; leave j; }; }; out x", nil, 20, halted([]int{2}, 11)},
		{"loop k {; loop j {; x = (x + 1); if (x < 3) {; again j; }; leave j; }; out x; leave k; }", nil, 20, halted([]int{3}, 15)},
		{"loop k {; loop j {; loop i {; x = (x + 1); if (x == 1) {; again i; }; if (x == 2) {; again j; }; if (x == 3) {; again k; }; leave k; }; }; }; out x", nil, 30, halted([]int{4}, 27)},
		{"loop a {; out 1; loop b {; out 2; loop c {; leave b; }; }; out 3; leave a; }; out 4", nil, 20, halted([]int{1, 2, 3, 4}, 9)},
		// Loops one behind the other may have one label.
		{"loop k {; leave k; }; loop k {; leave k; }; block k {; leave k; }; out 1", nil, 9, halted([]int{1}, 7)},
		{"loop k {; y = 0; loop j {; y = (y + 1); if (y == 2) {; leave j; }; }; x = (x + y); if (x == 4) {; leave k; }; }; out x", nil, 40, halted([]int{4}, 24)},
		{"proc main() () {; loop k {; = f(); out 1; leave k; }; }; proc f() () {; loop k {; leave k; }; out 2; }", nil, 9, halted([]int{2, 1}, 7)},
	}
}

func playsOfBlocks() []play {
	return []play{
		{"block k {; }; out 2", nil, 9, halted([]int{2}, 2)},
		{"block k {; out 1; }; out 2", nil, 9, halted([]int{1, 2}, 3)},
		{"block k {; leave k; out 1; }; out 2", nil, 9, halted([]int{2}, 3)},
		{"block k {; if 1 {; if 0 {; } else {; leave k; }; out 1; }; out 2; }; out 3", nil, 9, halted([]int{3}, 5)},
		{"block k {; block j {; leave j; out 1; }; out 2; leave k; out 3; }; out 4", nil, 9, halted([]int{2, 4}, 6)},
		{"block k {; block j {; block i {; leave k; }; out 1; }; out 2; }; out 3", nil, 9, halted([]int{3}, 5)},
		{"block k {; block j {; block i {; leave j; }; out 1; }; out 2; }; out 3", nil, 9, halted([]int{2, 3}, 6)},
		// Loops within blocks, and blocks within loops.
		{"block k {; loop j {; leave k; }; out 1; }; out 2", nil, 9, halted([]int{2}, 4)},
		{"block k {; loop j {; x = (x + 1); if (x == 3) {; leave j; }; }; out x; }; out 2", nil, 20, halted([]int{3, 2}, 13)},
		{"loop k {; block j {; leave k; }; out 1; }; out 2", nil, 9, halted([]int{2}, 4)},
		{"loop k {; block j {; x = (x + 1); if (x == 1) {; leave j; }; leave k; }; out 5; }; out 6", nil, 20, halted([]int{5, 6}, 12)},
		{"loop k {; x = (x + 1); block j {; if (x == 1) {; again k; }; leave k; }; }; out x", nil, 20, halted([]int{2}, 11)},
		{"loop k {; block j {; block i {; x = (x + 1); if (x < 3) {; leave j; }; leave i; }; leave k; }; out x; }; out 9", nil, 30, halted([]int{1, 2, 9}, 22)},
	}
}

func playsOfCalls() []play {
	return []play{
		// Of later procedures, of earlier ones, of itself, and of the first one.
		{"proc main() () {; out 1; = f(); out 3; }; proc f() () {; out 2; }", nil, 9, halted([]int{1, 2, 3}, 4)},
		{"proc main() () {; = f(); }; proc f() () {; }", nil, 9, halted(nil, 1)},
		{"proc main() () {; x = g(4); out x; }; proc f(a) (b) {; b = (a + 1); }; proc g(a) (b) {; b = f(a); b = (b * 2); }", nil, 9, halted([]int{10}, 5)},
		{"proc main() () {; in x; y = f(x); out y; }; proc f(n) (r) {; if (n == 0) {; r = 1; back; }; r = f((n - 1)); r = (r * n); }", []int{5}, 40, halted([]int{120}, 21)},
		{"proc main() () {; x = even(5); out x; x = even(4); out x; }; proc even(n) (r) {; if n {; r = odd((n - 1)); } else {; r = 1; }; }; proc odd(n) (r) {; if n {; r = even((n - 1)); }; }", nil, 40, halted([]int{0, 1}, 25)},
		{"proc main(a) () {; if a {; out 1; back; }; = f(); out 2; }; proc f() () {; = main(7); out 3; }", nil, 20, halted([]int{1, 3, 2}, 8)},
		{"proc main(a) () {; if !a {; = main(1); out 2; } else {; out 1; }; }", nil, 9, halted([]int{1, 2}, 5)},
		{"proc main(a) (b) {; b = (a + 1); if (a < 3) {; b = main(b); }; out b; }", nil, 30, halted([]int{4, 4, 4, 4}, 15)},
		// What returns.
		{"back; out 1", nil, 9, halted(nil, 1)},
		{"out 1; back; out 2", nil, 9, halted([]int{1}, 2)},
		{"loop k {; out 1; block j {; back; }; }; out 2", nil, 9, halted([]int{1}, 4)},
		{"proc main() () {; = f(); out 3; }; proc f() () {; out 1; back; out 2; }", nil, 9, halted([]int{1, 3}, 4)},
		{"proc main() () {; = f(); out 3; }; proc f() () {; loop k {; out 1; back; }; }", nil, 9, halted([]int{1, 3}, 5)},
		{"proc main() () {; loop k {; = f(); out 3; leave k; }; }; proc f() () {; loop k {; block j {; if 0 {; } else {; back; }; }; }; }", nil, 9, halted([]int{3}, 8)},
		{"proc main() () {; x = f(1); y = f(0); out x; out y; }; proc f(a) (b) {; b = 5; if a {; back; }; b = 6; }", nil, 20, halted([]int{5, 6}, 10)},
		// What ends the run.
		{"halt; out 1", nil, 9, halted(nil, 1)},
		{"out 1; halt; out 2", nil, 9, halted([]int{1}, 2)},
		{"loop k {; block j {; if 1 {; halt; }; out 1; }; }; out 2", nil, 9, halted(nil, 4)},
		{"proc main() () {; = f(); out 2; }; proc f() () {; out 1; halt; }", nil, 9, halted([]int{1}, 3)},
		{"proc main() () {; loop k {; x = f(); out 2; }; }; proc f() (a) {; a = g(); out 3; }; proc g() (a) {; loop k {; halt; }; }", nil, 9, halted(nil, 5)},
		{"proc main(a) () {; if a {; halt; }; = f(); out 2; }; proc f() () {; = main(7); out 3; }", nil, 9, halted(nil, 5)},
		// Calls that came back wait no more.
		{"proc main() () {; loop k {; x = f(x); if (x == 100) {; leave k; }; }; out x; }; proc f(a) (a) {; a = (a + 1); }", nil, 999, halted([]int{100}, 402)},
	}
}

// countedCalls calls itself so often as is asked for, and tells how often it returned.
const countedCalls = "proc main() () {; in x; y = f(x); out y; }; proc f(n) (r) {; if n {; r = f((n - 1)); r = (r + 1); }; }"

func playsOfManyCalls() []play {
	// The last call that there may be calls with a term that traps: this is evaluated first.
	trapsAtLast := "proc main() () {; = f(59); }; proc f(n) () {; if (n == 1) {; = f(byte[6]); }; = f((n - 1)); }"
	return []play{
		{"proc main() () {; = main(); }", nil, 999, ended(impl.EndCut, nil, 60)},
		{"proc main() () {; out 1; = main(); out 2; }", nil, 119, ended(impl.EndCut, slices.Repeat([]int{1}, 60), 119)},
		{"proc main() () {; out 1; = main(); out 2; }", nil, 999, ended(impl.EndCut, slices.Repeat([]int{1}, 60), 120)},
		{countedCalls, []int{57}, 999, halted([]int{57}, 175)},
		{countedCalls, []int{58}, 999, halted([]int{58}, 178)},
		{countedCalls, []int{59}, 999, ended(impl.EndCut, nil, 120)},
		{countedCalls, []int{65535}, 999, ended(impl.EndCut, nil, 120)},
		{trapsAtLast, nil, 999, ended(impl.EndTrap, nil, 119)},
	}
}

func playsOfWordsThatAreTold() []play {
	twenty := []int{9, 1, 2, 3, 4, 5, 6, 7, 8, 0, 65535, 11, 12, 13, 14, 15, 16, 17, 18, 32768}
	return []play{
		{strings.Repeat("out 7; ", 60) + "x = 5", nil, 99, halted(slices.Repeat([]int{7}, 60), 61)},
		{strings.Repeat("out 7; ", 61) + "x = 5", nil, 99, ended(impl.EndCut, slices.Repeat([]int{7}, 60), 61)},
		{strings.Repeat("out 7; ", 61) + "x = 5", nil, 60, ended(impl.EndCut, slices.Repeat([]int{7}, 60), 60)},
		{strings.Repeat("out 7; ", 60) + "out byte[6]", nil, 99, ended(impl.EndTrap, slices.Repeat([]int{7}, 60), 61)},
		{"loop k {; out x; }", nil, 60000, ended(impl.EndCut, zeros(60), 122)},
		{"proc main() () {; loop k {; = f(); }; }; proc f() () {; out 0; }", nil, 60000, ended(impl.EndCut, zeros(60), 183)},
		{"in x; out x; in y; out y; out x", []int{65535}, 9, halted([]int{65535, 0, 65535}, 5)},
		{"x = 5; in x; out x", nil, 9, halted([]int{0}, 3)},
		{"out 1", twenty, 9, halted([]int{1}, 1)},
		{strings.Repeat("in x; out x; ", 20), twenty, 99, halted(twenty, 40)},
		{strings.Repeat("in x; out x; ", 25), twenty, 99, halted(slices.Concat(twenty, zeros(5)), 50)},
		{strings.Repeat("in x; out x; ", 3), twenty, 99, halted(twenty[:3], 6)},
		{"proc main() () {; in x; y = f(x); in z; out x; out y; out z; }; proc f(x) (y) {; in y; in x; }", []int{5, 6, 7, 8}, 20, halted([]int{5, 6, 8}, 8)},
	}
}

// countdownPlay takes 3 of the fuel for each number that it counts, and 2 more.
func countdownPlay(from int) string {
	return "x = " + strconv.Itoa(from) + "; loop k {; x = (x - 1); if !x {; leave k; }; }"
}

func playsOfProgramFuel() []play {
	once := "loop k {; if x {; leave k; }; x = 1; }; out 1"
	again := "loop k {; if x {; leave k; }; x = 1; again k; }; out 1"
	return []play{
		{"", nil, 0, halted(nil, 0)},
		{"halt", nil, 0, ended(impl.EndCut, nil, 0)},
		{"halt", nil, 1, halted(nil, 1)},
		{"back", nil, 0, ended(impl.EndCut, nil, 0)},
		{"back", nil, 1, halted(nil, 1)},
		{"out 1; out 2", nil, 0, ended(impl.EndCut, nil, 0)},
		{"out 1; out 2", nil, 1, ended(impl.EndCut, []int{1}, 1)},
		{"out 1; out 2", nil, 2, halted([]int{1, 2}, 2)},
		{"byte[6] = 1", nil, 0, ended(impl.EndCut, nil, 0)},
		{"byte[6] = 1", nil, 1, ended(impl.EndTrap, nil, 1)},
		{"out 1; out byte[6]", nil, 1, ended(impl.EndCut, []int{1}, 1)},
		{"out 1; out byte[6]", nil, 2, ended(impl.EndTrap, []int{1}, 2)},
		{"byte[0] = 9; byte[1] = 8", nil, 1, told{impl.EndCut, nil, memoryOf(9), 1, nil}},
		{"if 1 {; out 1; }", nil, 1, ended(impl.EndCut, nil, 1)},
		{"block k {; out 1; }", nil, 1, ended(impl.EndCut, nil, 1)},
		{"block k {; leave k; }", nil, 1, ended(impl.EndCut, nil, 1)},
		{"block k {; leave k; }", nil, 2, halted(nil, 2)},
		{"proc main() () {; = f(); }; proc f() () {; out 1; }", nil, 1, ended(impl.EndCut, nil, 1)},
		{"proc main() () {; = f(); out 2; }; proc f() () {; out 1; }", nil, 2, ended(impl.EndCut, []int{1}, 2)},
		// To begin a loop again takes one of the fuel, to come to the end of another body none.
		{once, nil, 3, ended(impl.EndCut, nil, 3)},
		{once, nil, 4, ended(impl.EndCut, nil, 4)},
		{once, nil, 6, ended(impl.EndCut, nil, 6)},
		{once, nil, 7, halted([]int{1}, 7)},
		{again, nil, 4, ended(impl.EndCut, nil, 4)},
		{again, nil, 5, ended(impl.EndCut, nil, 5)},
		{again, nil, 7, ended(impl.EndCut, nil, 7)},
		{again, nil, 8, halted([]int{1}, 8)},
		{"loop k {; }", nil, 60000, ended(impl.EndCut, nil, 60000)},
		{"loop k {; again k; }", nil, 60000, ended(impl.EndCut, nil, 60000)},
		{"out 1; " + countdownPlay(19999), nil, 60000, halted([]int{1}, 60000)},
		{"out 1; " + countdownPlay(19999), nil, 59999, ended(impl.EndCut, []int{1}, 59999)},
		{countdownPlay(19999), nil, 60000, halted(nil, 59999)},
		{countdownPlay(20000), nil, 60000, ended(impl.EndCut, nil, 60000)},
	}
}

func somePlaysOfPrograms() []play {
	return slices.Concat(playsOfVariables(), playsOfStores(), playsOfTraps(), playsOfChoices(), playsOfLoops(), playsOfBlocks(), playsOfCalls(), playsOfManyCalls(), playsOfWordsThatAreTold(), playsOfProgramFuel())
}

func TestNumbersOfPlays(t *testing.T) {
	if impl.MaxCalls != 60 || impl.MaxPlay != 60000 {
		t.Errorf("limits %d, %d", impl.MaxCalls, impl.MaxPlay)
	}
}

func TestPlayValues(t *testing.T) {
	for _, p := range somePlaysOfPrograms() {
		program := shortProgram(p.program)
		if got := playedOf(program, p.in, p.fuel); !sameTold(got, p.want) {
			t.Errorf("%q, asking for %v, with a fuel of %d tells %v, not %v", p.program, p.in, p.fuel, got, p.want)
		}
		checkPlay(t, program, p.in, p.fuel)
	}
}

// The memory of a program begins with its Data, and goes on with 0.
func TestPlayBeginsWithData(t *testing.T) {
	for room := 0; room <= 64; room++ {
		for _, long := range []int{0, 1, room / 2, room} {
			if long > room {
				continue
			}
			p := mainOf()
			p.Room, p.Data = room, codeOf(long)
			r := impl.RunProg(p, nil, 0)
			if r.End != impl.EndHalt || len(r.Out) != 0 || !slices.Equal(r.Mem, append(codeOf(long), zeros(room-long)...)) {
				t.Errorf("a room of %d with %d of data: %v", room, long, r)
			}
		}
	}
}

// checkStore stores a word at an address and tells what is there then.
func checkStore(t *testing.T, room int, address int, bytes int, word int) {
	t.Helper()
	kind, asked := 1, "word[x]"
	if bytes == 1 {
		kind, asked = 2, "byte[x]"
	}
	p := mainOf(impl.Node{Kind: 4, Name: "x"}, impl.Node{Kind: 4, Name: "y"}, impl.Node{Kind: kind, Terms: termsOf("x", "y")}, outNode(asked))
	p.Room, p.Data = room, codeOf(room)
	want := told{end: impl.EndHalt, out: []int{word}, mem: codeOf(room), steps: 4}
	switch {
	case address+bytes > room:
		want = told{end: impl.EndTrap, mem: codeOf(room), steps: 3}
	case bytes == 1:
		want.out[0] = word % 256
		want.mem[address] = word % 256
	default:
		want.mem[address], want.mem[address+1] = word%256, word/256
	}
	if got := playedOf(p, []int{address, word}, 9); !sameTold(got, want) {
		t.Errorf("%d in %d bytes at %d of %d tells %v, not %v", word, bytes, address, room, got, want)
	}
}

func TestPlayAtTheEndsOfMemory(t *testing.T) {
	for _, room := range []int{0, 1, 2, 3, 31, 63, 64} {
		for _, address := range []int{0, 1, 2, room - 3, room - 2, room - 1, room, room + 1, 255, 256, 32767, 32768, 65534, 65535} {
			for _, word := range []int{0, 1, 255, 256, 4660, 65535} {
				if address >= 0 {
					checkStore(t, room, address, 1, word)
					checkStore(t, room, address, 2, word)
				}
			}
		}
	}
}

func TestPlayStoresAllWords(t *testing.T) {
	for word := 0; word <= 65535; word += 11 {
		checkStore(t, 4, 1, 1, word)
		checkStore(t, 4, 2, 2, word)
	}
}

func TestPlayChoosesByAllWords(t *testing.T) {
	p := shortProgram("in x; if x {; out 1; } else {; out 2; }; if x {; out 3; }")
	for word := 0; word <= 65535; word += 5 {
		want := halted([]int{1, 3}, 5)
		if word == 0 {
			want = halted([]int{2}, 4)
		}
		if got := playedOf(p, []int{word}, 9); !sameTold(got, want) {
			t.Errorf("the word %d tells %v, not %v", word, got, want)
		}
	}
}

// What terms are counts as chapter 9 tells, with the variables of the call and the memory as they are.
func TestPlayOfAllTerms(t *testing.T) {
	for _, x := range someTerms() {
		for _, s := range scopes() {
			p := mainOf()
			p.Room, p.Data = len(s.mem), s.mem
			for _, v := range s.vars[:min(len(s.vars), 30)] {
				p.Procs[0].Body = append(p.Procs[0].Body, impl.Node{Kind: 0, Name: v.Name, Terms: []impl.Term{num(v.Num)}})
			}
			s.vars = s.vars[:min(len(s.vars), 30)]
			p.Procs[0].Body = append(p.Procs[0].Body, impl.Node{Kind: 3, Terms: []impl.Term{x}})
			want := told{end: impl.EndTrap, mem: s.mem, steps: len(p.Procs[0].Body)}
			if word, ok := s.want(x); ok {
				want.end, want.out = impl.EndHalt, []int{word}
			}
			if got := playedOf(p, nil, 99); !sameTold(got, want) {
				t.Errorf("out %s tells %v, not %v", brieflyTerm(x), got, want)
			}
		}
	}
}

// A node far within leaves each of the bodies around it, or begins it again.
func TestPlayLeavesEachBody(t *testing.T) {
	for deep := 1; deep <= 58; deep += 3 {
		for kinds := range 4 {
			for far := 1; far <= deep; far++ {
				for _, last := range []impl.Node{leaveNode("n" + strconv.Itoa(far)), againNode("n" + strconv.Itoa(far))} {
					body := nodes(ifNode("(x == 3)", nodes(haltNode), nodes(setNode("x", "(x + 1)"), last)), outNode("99"))
					for k := deep; k >= 1; k-- {
						n := impl.Node{Kind: 7 + (kinds>>(k%2))%2, Name: "n" + strconv.Itoa(k), Body: body}
						body = nodes(n, outNode(strconv.Itoa(100+k)))
					}
					if p := mainOf(body...); wantProgram(p) {
						checkPlay(t, p, nil, 400)
					}
				}
			}
		}
	}
}

func TestPlayOfCallsWithinCalls(t *testing.T) {
	p := shortProgram(countedCalls)
	for n := range 70 {
		want := halted([]int{n}, 4+3*n)
		if n > 58 {
			want = ended(impl.EndCut, nil, 120)
		}
		if got := playedOf(p, []int{n}, 60000); !sameTold(got, want) {
			t.Errorf("%d calls of itself: %v, not %v", n, got, want)
		}
	}
}

// With 60 calls that wait for each other each of the procedures may be the one that is not called.
func TestPlayOfCallsOfAllProcedures(t *testing.T) {
	names := strings.Fields("a b c d e f g h i j k l")
	for count := 1; count <= 12; count++ {
		var p impl.Program
		for k, name := range names[:count] {
			p.Procs = append(p.Procs, procOf(name, "n", "n", setNode("n", "(n + 1)"), ifNode("(n == 60)", nil, nodes(callNode("n", names[(k+1)%count], "n"))), outNode("n")))
		}
		checkPlay(t, p, nil, 60000)
		if r := impl.RunProg(p, nil, 60000); r.End != impl.EndHalt || !slices.Equal(r.Out, slices.Repeat([]int{60}, 60)) {
			t.Errorf("60 calls of %d procedures: %v", count, r)
		}
		for k := range p.Procs {
			p.Procs[k].Body[1].Terms = termsOf("(n == 61)")
		}
		if r := impl.RunProg(p, nil, 60000); r.End != impl.EndCut || len(r.Out) != 0 {
			t.Errorf("61 calls of %d procedures: %v", count, r)
		}
	}
}

func TestPlayOfCallsInAllOrders(t *testing.T) {
	orders := []string{"a b c", "a c b", "b a c", "b c a", "c a b", "c b a"}
	for _, takes := range orders {
		for _, gives := range orders {
			for _, names := range orders {
				for _, terms := range orders {
					p := impl.Program{Procs: []impl.Proc{
						procOf("main", "", "", setNode("a", "1"), setNode("b", "2"), setNode("c", "3"), callNode(names, "f", terms), outNode("a"), outNode("b"), outNode("c")),
						procOf("f", takes, gives, setNode("b", "(b * 10)")),
					}}
					checkPlay(t, p, nil, 99)
				}
			}
		}
	}
}

func TestPlayTellsSoManyWords(t *testing.T) {
	for count := range 70 {
		p := mainOf(slices.Repeat(nodes(outNode("5")), count)...)
		want := told{out: slices.Repeat([]int{5}, min(count, 60)), steps: min(count, 61)}
		if count > 60 {
			want.end = impl.EndCut
		}
		if got := playedOf(p, nil, 999); !sameTold(got, want) {
			t.Errorf("%d words: %v, not %v", count, got, want)
		}
	}
}

func TestPlayAsksForSoManyWords(t *testing.T) {
	for count := range 31 {
		p := mainOf(slices.Repeat(nodes(impl.Node{Kind: 4, Name: "x"}, outNode("x")), count)...)
		for long := range 21 {
			in := slices.Repeat([]int{65535}, long)
			want := told{out: append(slices.Repeat([]int{65535}, min(count, long)), zeros(max(count-long, 0))...), steps: 2 * count}
			if got := playedOf(p, in, 999); !sameTold(got, want) {
				t.Errorf("asking %d times for %d words: %v, not %v", count, long, got, want)
			}
		}
	}
}

func TestPlayOfLargestPrograms(t *testing.T) {
	for _, p := range largestPrograms() {
		for _, fuel := range []int{0, 1, 59, 60, 2999, 3000, 3001, 60000} {
			checkPlay(t, p, []int{1, 2, 3}, fuel)
		}
	}
	p := mainOf(slices.Repeat(nodes(setNode("x", "(x + 1)")), 2999)...)
	p.Procs[0].Body = append(p.Procs[0].Body, outNode("x"))
	if got, want := playedOf(p, nil, 3000), (told{out: []int{2999}, steps: 3000}); !sameTold(got, want) {
		t.Errorf("3000 nodes tell %v, not %v", got, want)
	}
}

// Programs that are drawn go on for a while: most of their terms ask for no memory that there is not.

func (l *lot) playedTerm() impl.Term {
	a := strings.Fields("a b c d")[l.next(4)]
	small := strconv.Itoa(l.next(6))
	switch l.next(9) {
	case 0, 1:
		return termOf(small)
	case 2:
		return termOf(a)
	case 3:
		return termOf("(" + a + " " + opTexts[l.next(9)] + " " + strings.Fields("a b c d")[l.next(4)] + ")")
	case 4:
		return termOf("!" + a)
	case 5:
		return termOf([]string{"byte[", "word["}[l.next(2)] + small + "]")
	case 6:
		return termOf("byte[(" + a + " & 7)]")
	}
	return termOf("(" + a + " " + opTexts[l.next(9)] + " " + small + ")")
}

func (l *lot) playedNodes(procs []impl.Proc, labels []string, high int) []impl.Node {
	var list []impl.Node
	for range l.oneOf(0, 1, 2, 3, 4, 5) {
		list = append(list, l.playedNode(procs, labels, high))
	}
	return list
}

// playedNode draws a node; what ends a body stands seldom but in a choice.
func (l *lot) playedNode(procs []impl.Proc, labels []string, high int) impl.Node {
	name := strings.Fields("a b c d")[l.next(4)]
	switch l.next(14) {
	case 0, 1:
		return impl.Node{Kind: l.oneOf(1, 2), Terms: []impl.Term{num(l.oneOf(0, 1, 2, 3, 4, 4, 4, 5)), l.playedTerm()}}
	case 2, 3:
		return impl.Node{Kind: 3, Terms: []impl.Term{l.playedTerm()}}
	case 4:
		return impl.Node{Kind: 4, Name: name}
	case 5, 6:
		return l.playedCall(procs)
	case 7, 8:
		if high > 0 {
			return impl.Node{Kind: 6, Terms: []impl.Term{l.playedTerm()}, Body: l.playedNodes(procs, labels, high-1), Else: l.playedNodes(procs, labels, high-1)}
		}
	case 9, 10:
		if high > 0 {
			label := "n" + strconv.Itoa(high)
			kind := l.oneOf(7, 8)
			return impl.Node{Kind: kind, Name: label, Body: l.playedNodes(procs, append(slices.Clone(labels), []string{"+", "-"}[kind-7]+label), high-1)}
		}
	case 11, 12:
		return ifNode("("+name+" < "+strconv.Itoa(l.next(4))+")", nodes(l.playedEnd(labels)), nil)
	}
	return impl.Node{Kind: 0, Name: name, Terms: []impl.Term{l.playedTerm()}}
}

func (l *lot) playedCall(procs []impl.Proc) impl.Node {
	proc := procs[l.next(len(procs))]
	n := impl.Node{Kind: 5, Name: proc.Name}
	for range proc.Takes {
		n.Terms = append(n.Terms, l.playedTerm())
	}
	names := strings.Fields("a b c d a b c")
	n.Names = slices.Clone(names[l.next(4):][:len(proc.Gives)])
	return n
}

// playedEnd draws a node that ends a body.
func (l *lot) playedEnd(labels []string) impl.Node {
	if len(labels) == 0 || l.next(6) == 0 {
		return impl.Node{Kind: l.oneOf(11, 11, 12)}
	}
	label := labels[l.next(len(labels))]
	if label[0] == '+' && l.next(2) == 0 {
		return againNode(label[1:])
	}
	return leaveNode(label[1:])
}

func (l *lot) playedProgram() impl.Program {
	p := impl.Program{Room: l.oneOf(6, 6, 6, 8, 64), Data: codeOf(l.next(7))}
	lists := []string{"", "a", "b", "a b", "c a", "d c b"}
	for _, name := range strings.Fields("main f g h")[:1+l.next(4)] {
		p.Procs = append(p.Procs, procOf(name, lists[l.next(6)], lists[l.next(6)]))
	}
	for k := range p.Procs {
		p.Procs[k].Body = l.playedNodes(p.Procs, nil, 3)
		if k == 0 {
			p.Procs[k].Body = append(p.Procs[k].Body, l.playedNodes(p.Procs, nil, 3)...)
		}
	}
	return p
}

func TestPlaysOfAllKindsOfPrograms(t *testing.T) {
	l := &lot{state: 12}
	ends, kinds := map[int]int{}, map[int]int{}
	long := 0
	for range 20000 {
		p, in := l.playedProgram(), l.words()
		w := checkPlay(t, p, in, l.oneOf(1, 3, 10, 50, 200, 200, 1000))
		ends[w.end]++
		if w.steps >= 20 {
			long++
		}
		for kind, count := range w.kinds {
			kinds[kind] += min(count, 5)
		}
	}
	for _, end := range []int{impl.EndHalt, impl.EndTrap, impl.EndCut} {
		if ends[end] < 500 {
			t.Errorf("just %d runs ended with %d", ends[end], end)
		}
	}
	for kind := range 13 {
		if kinds[kind] < 1000 {
			t.Errorf("just %d times kind %d was begun", kinds[kind], kind)
		}
	}
	if len(ends) != 3 || long < 4000 {
		t.Errorf("ends %v, and just %d long runs", ends, long)
	}
}

func TestPlaysOfSomePrograms(t *testing.T) {
	l := &lot{state: 21}
	for _, p := range somePrograms() {
		for _, fuel := range []int{0, 1, 2, 5, 17, 300} {
			checkPlay(t, p, l.words(), fuel)
		}
	}
}

// fueledProgram is a program with words, and the most fuel with which all runs of it are compared.
type fueledProgram struct {
	program impl.Program
	in      []int
	most    int
}

func someFueledPrograms() []fueledProgram {
	var list []fueledProgram
	for _, p := range somePlaysOfPrograms() {
		list = append(list, fueledProgram{shortProgram(p.program), p.in, min(p.fuel+3, 200)})
	}
	l := &lot{state: 57}
	for range 1500 {
		list = append(list, fueledProgram{l.playedProgram(), l.words(), 50})
	}
	for _, p := range goodPrograms() {
		list = append(list, fueledProgram{p, l.words(), 20})
	}
	return list
}

// Promise 55: what was written and read runs the same.

func TestPromise55RunsTheSame(t *testing.T) {
	for _, f := range someFueledPrograms() {
		read, ok := impl.ProgRead(impl.ProgText(f.program))
		if !ok {
			t.Errorf("%s is not read", brieflyProgram(f.program))
			continue
		}
		for _, fuel := range []int{0, 1, f.most / 2, f.most, 1000} {
			got, want := playedOf(read, f.in, fuel), playedOf(f.program, f.in, fuel)
			if !sameTold(got, want) || got.end == impl.EndBad {
				t.Errorf("%s, asking for %v, with a fuel of %d tells %v when it was read, not %v", brieflyProgram(f.program), f.in, fuel, got, want)
			}
		}
	}
}

func TestPromise55Values(t *testing.T) {
	for _, p := range somePlaysOfPrograms() {
		read, _ := impl.ProgRead(impl.ProgText(shortProgram(p.program)))
		if got := playedOf(read, p.in, p.fuel); !sameTold(got, p.want) {
			t.Errorf("%q, asking for %v, with a fuel of %d tells %v when it was read, not %v", p.program, p.in, p.fuel, got, p.want)
		}
	}
}

// Promise 57: with more fuel a run goes the same way.

// checkMoreFuelOf compares a run with one that has more fuel.
func checkMoreFuelOf(t *testing.T, p impl.Program, less told, more told) {
	t.Helper()
	if less.end != impl.EndCut && !sameTold(less, more) {
		t.Errorf("%s with more fuel tells %v, not %v", brieflyProgram(p), more, less)
	}
	if len(less.out) > len(more.out) || !slices.Equal(less.out, more.out[:len(less.out)]) {
		t.Errorf("%s with more fuel tells the words %v, not first %v", brieflyProgram(p), more.out, less.out)
	}
	if less.steps > more.steps {
		t.Errorf("%s with more fuel takes %d of it, not %d at least", brieflyProgram(p), more.steps, less.steps)
	}
}

func TestPromise57MoreFuel(t *testing.T) {
	for _, f := range someFueledPrograms() {
		all := playedOf(f.program, f.in, 1500)
		last := playedOf(f.program, f.in, 0)
		for fuel := 1; fuel <= f.most; fuel++ {
			next := playedOf(f.program, f.in, fuel)
			checkMoreFuelOf(t, f.program, last, next)
			last = next
		}
		checkMoreFuelOf(t, f.program, last, all)
	}
}

func TestPromise57TellsOneMore(t *testing.T) {
	p := shortProgram("loop k {; in x; out x; }")
	in := []int{5, 4, 3, 2, 1}
	want := append(slices.Clone(in), zeros(55)...)
	for fuel := 0; fuel <= 250; fuel++ {
		r := impl.RunProg(p, in, fuel)
		count := min(fuel/3, 60)
		if r.End != impl.EndCut || !slices.Equal(r.Out, want[:count]) {
			t.Errorf("with a fuel of %d: %v", fuel, r)
		}
	}
}

// Promise 58: a run needs just its fuel.

func TestPromise58Values(t *testing.T) {
	for _, p := range somePlaysOfPrograms() {
		if steps := impl.PlaySteps(shortProgram(p.program), p.in, p.fuel); steps != p.want.steps {
			t.Errorf("%q with a fuel of %d takes %d of it, not %d", p.program, p.fuel, steps, p.want.steps)
		}
	}
}

func checkFuelOf(t *testing.T, f fueledProgram, fuel int) {
	t.Helper()
	run := playedOf(f.program, f.in, fuel)
	if !between(run.steps, 0, fuel) {
		t.Errorf("%s with a fuel of %d takes %d of it", brieflyProgram(f.program), fuel, run.steps)
		return
	}
	if same := playedOf(f.program, f.in, run.steps); !sameTold(same, run) {
		t.Errorf("%s with just the %d that it takes tells %v, not %v", brieflyProgram(f.program), run.steps, same, run)
	}
	if run.end == impl.EndCut || run.steps == 0 {
		return
	}
	less := playedOf(f.program, f.in, run.steps-1)
	if less.end != impl.EndCut || less.steps != run.steps-1 {
		t.Errorf("%s with one less than %d tells %v", brieflyProgram(f.program), run.steps, less)
	}
}

func TestPromise58JustItsFuel(t *testing.T) {
	for _, f := range someFueledPrograms() {
		for fuel := 0; fuel <= f.most; fuel += 3 {
			checkFuelOf(t, f, fuel)
		}
		checkFuelOf(t, f, f.most)
		checkFuelOf(t, f, 1000)
	}
	for _, p := range somePlaysOfPrograms() {
		for _, fuel := range []int{59999, 60000} {
			checkFuelOf(t, fueledProgram{program: shortProgram(p.program), in: p.in}, fuel)
		}
	}
}

func TestPromise58EachKindTakesOne(t *testing.T) {
	list := []impl.Node{setNode("x", "5"), {Kind: 1, Terms: termsOf("0", "5")}, {Kind: 2, Terms: termsOf("0", "5")}, outNode("x"), {Kind: 4, Name: "x"}, callNode("", "f", ""), ifNode("0", nil, nil), ifNode("1", nil, nil), blockNode("k"), leaveNode("m"), backNode, haltNode}
	for k, n := range list {
		p := impl.Program{Room: 2, Procs: []impl.Proc{procOf("main", "", "", blockNode("m", n)), procOf("f", "", "")}}
		if steps := impl.PlaySteps(p, nil, 99); steps != 2 {
			t.Errorf("node %d of kind %d takes %d of the fuel", k, n.Kind, steps-1)
		}
	}
	for count := range 20 {
		p := mainOf(loopNode("k", slices.Repeat(nodes(blockNode("j")), count)...))
		for fuel := range 100 {
			if steps := impl.PlaySteps(p, nil, fuel); steps != fuel {
				t.Errorf("a loop without an end takes %d of a fuel of %d", steps, fuel)
			}
		}
	}
}

// Where there is nothing to run, nothing comes of it.

func checkNothingOf(t *testing.T, what string, p impl.Program, in []int, fuel int) {
	t.Helper()
	got := playedOf(p, in, fuel)
	if got.end != impl.EndBad || len(got.out) != 0 || len(got.mem) != 0 || got.steps != -1 {
		t.Errorf("%s, asking for %v, with a fuel of %d, tells %v", what, in, fuel, got)
	}
}

func noPrograms() []impl.Program {
	list := append(endlessPrograms(), impl.Program{}, impl.Program{Room: 6, Data: []int{1}}, mainOf(leaveNode("k")), mainOf(againNode("k")), mainOf(blockNode("k", againNode("k"))), mainOf(loopNode("k", loopNode("k"))), mainOf(impl.Node{Kind: 3}), mainOf(impl.Node{Kind: 13}), mainOf(impl.Node{Kind: -1}), mainOf(haltNode, callNode("", "f", "")), mainOf(callNode("", "main", "1")), mainOf(callNode("x", "main", "")), mainOf(haltNode, impl.Node{Kind: 12, Name: "k"}), sizedProcs(3001))
	for _, of := range nesters() {
		list = append(list, mainOf(nested(61, of, haltNode)...))
	}
	for _, memory := range []impl.Program{{Room: -1}, {Room: 65}, {Data: []int{1}}, {Room: 2, Data: []int{1, 256}}, {Room: 2, Data: []int{-1}}} {
		memory.Procs = mainOf().Procs
		list = append(list, memory)
	}
	for number := range wantSize(basePrograms()[0]) {
		for _, change := range nodeChanges() {
			if p := withNode(basePrograms()[0], number, change); !wantProgram(p) {
				list = append(list, p)
			}
		}
	}
	return list
}

func TestPlayOfNoPrograms(t *testing.T) {
	for k, p := range noPrograms() {
		for _, fuel := range []int{-1, 0, 1, 60000, 60001} {
			checkNothingOf(t, "no program "+strconv.Itoa(k), p, nil, fuel)
			checkNothingOf(t, "no program "+strconv.Itoa(k), p, []int{1, 2}, fuel)
		}
	}
}

func TestPlayOfNoFuel(t *testing.T) {
	for _, p := range somePlaysOfPrograms() {
		for _, fuel := range []int{math.MinInt, -65536, -60000, -4000, -2, -1, 60001, 60002, 65535, 65536, 120000, math.MaxInt} {
			checkNothingOf(t, strconv.Quote(p.program), shortProgram(p.program), p.in, fuel)
		}
	}
}

func TestPlayOfAllFuels(t *testing.T) {
	p := shortProgram("out 1; back")
	for fuel := -50; fuel <= 60050; fuel++ {
		if !between(fuel, 0, 60000) {
			checkNothingOf(t, "a program", p, nil, fuel)
		} else if steps := impl.PlaySteps(p, nil, fuel); steps != min(fuel, 2) {
			t.Errorf("with a fuel of %d it takes %d", fuel, steps)
		}
	}
}

func TestPlayOfTooManyWords(t *testing.T) {
	p := shortProgram("in x; out x")
	for count := 0; count <= 60; count++ {
		if count > 20 {
			checkNothingOf(t, "a program", p, zeros(count), 9)
			checkNothingOf(t, "a program", p, zeros(count), 0)
			checkNothingOf(t, "an empty program", mainOf(), zeros(count), 9)
		} else if r := impl.RunProg(p, zeros(count), 9); r.End != impl.EndHalt || len(r.Out) != 1 {
			t.Errorf("asking for %d words: %v", count, r)
		}
	}
	checkNothingOf(t, "a program", p, make([]int, 1000000), 9)
}

func TestPlayOfNumbersThatAreNoWords(t *testing.T) {
	p := shortProgram("in x")
	for _, n := range noWords {
		checkNothingOf(t, "a program", p, []int{n}, 9)
		checkNothingOf(t, "a program", p, []int{n}, 0)
		// Also where the run does not ask for it.
		checkNothingOf(t, "a program", p, []int{1, n}, 9)
		checkNothingOf(t, "a program", p, append(zeros(19), n), 9)
		checkNothingOf(t, "an empty program", mainOf(), []int{n, 1}, 9)
	}
}

// What is returned is new, and what is told stays.

// sharingPrograms tell words, change memory, ask for words and call procedures.
func sharingPrograms() []fueledProgram {
	list := []fueledProgram{
		{shortProgram("in x; in y; out x; byte[0] = y; out y"), []int{7, 8, 9}, 50},
		{shortProgram(""), nil, 50},
		{shortProgram("byte[1] = 7; out byte[6]"), []int{1}, 50},
		{shortProgram("loop k {; in x; out x; word[4] = x; }"), upTo(20), 1000},
		{shortProgram("proc main() () {; x, y = f(3, 4); out x; out y; }; proc f(a, b) (b, a) {; byte[b] = a; }"), nil, 50},
	}
	return append(list, someFueledPrograms()...)
}

func TestRunProgSharesNothing(t *testing.T) {
	for k, f := range sharingPrograms() {
		p, in := copiedProgram(f.program), slices.Clone(f.in)
		want := wantPlay(f.program, f.in, f.most).told
		first, second := impl.RunProg(p, in, f.most), impl.RunProg(p, in, f.most)
		seen := map[any]bool{}
		for _, cell := range slices.Concat(cellsOfList(first.Out), cellsOfList(first.Mem), cellsOfList(second.Out), cellsOfList(second.Mem), cellsOfList(in), cellsOfList(p.Data)) {
			if seen[cell] {
				t.Errorf("what run %d tells shares memory", k)
				break
			}
			seen[cell] = true
		}
		spoil(first.Out)
		if !slices.Equal(first.Mem, want.mem) {
			t.Errorf("what run %d told shares memory with what it left", k)
		}
		spoil(first.Mem)
		if !alikePrograms(p, f.program) || !slices.Equal(in, f.in) {
			t.Errorf("run %d shares memory with its arguments", k)
		}
		third := impl.RunProg(p, in, f.most)
		spoilCells(cellsOfProgram(p))
		spoil(in)
		for _, r := range []impl.Result{second, third} {
			if !sameResult(told{end: r.End, out: r.Out, mem: r.Mem}, want) {
				t.Errorf("run %d shares memory: %v", k, r)
			}
		}
	}
}

func TestPlaysChangeNothing(t *testing.T) {
	for k, f := range append(sharingPrograms(), fueledProgram{impl.Program{}, []int{-1}, 9}, fueledProgram{mainOf(leaveNode("k")), nil, 9}, fueledProgram{mainOf(), zeros(21), 9}) {
		guarded := guardedProgram(f.program)
		in := append(slices.Clone(f.in), 55555)
		kept := slices.Clone(in)
		playedOf(guarded, in[:len(f.in)], f.most)
		playedOf(guarded, in[:len(f.in)], 60001)
		if !alikePrograms(guarded, f.program) || !isGuardedProgram(guarded) || !slices.Equal(in, kept) {
			t.Errorf("run %d changed its arguments", k)
		}
	}
}

// The parts of a program may share memory.
func TestPlayOfPartsInCommon(t *testing.T) {
	names := []string{"a", "b"}
	body := nodes(setNode("a", "(a + b)"), impl.Node{Kind: 5, Name: "f", Terms: termsOf("(a + 1)", "2"), Names: names})
	p := impl.Program{Procs: []impl.Proc{
		{Name: "g", Takes: names, Gives: names[:1], Body: append(nodes(ifNode("b", body, body), loopNode("a", append(body, leaveNode("a"))...)), outNode("a"), outNode("b"))},
		{Name: "f", Takes: names, Gives: names, Body: nodes(setNode("b", "(b + a)"))},
	}}
	kept := copiedProgram(p)
	w := checkPlay(t, p, nil, 99)
	if !alikePrograms(p, kept) || w.end != impl.EndHalt || !slices.Equal(w.out, []int{5, 7}) {
		t.Errorf("%s was changed, or tells %v", brieflyProgram(p), w.out)
	}
}
