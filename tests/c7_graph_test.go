package tests

import (
	"math"
	"slices"
	"strconv"
	"strings"
	"testing"

	"loop.example/liftedcode/impl"
)

// graphed is what chapter 7 tells of a graph: loops has that of each head, and over, for each node, those over which it is.
type graphed struct {
	ok        bool
	order     []int
	doms      []int
	heads     []int
	reducible bool
	loops     [][]int
	over      [][]int
}

func sameLists(a [][]int, b [][]int) bool {
	return slices.EqualFunc(a, b, slices.Equal)
}

func sameGraphed(a graphed, b graphed) bool {
	return a.ok == b.ok && slices.Equal(a.order, b.order) && slices.Equal(a.doms, b.doms) && slices.Equal(a.heads, b.heads) &&
		a.reducible == b.reducible && sameLists(a.loops, b.loops) && sameLists(a.over, b.over)
}

func graphedOf(g [][]int) graphed {
	got := graphed{ok: impl.GraphOk(g), order: impl.OrderOf(g), doms: impl.DomsOf(g), heads: impl.HeadsOf(g), reducible: impl.Reducible(g)}
	for _, head := range got.heads {
		got.loops = append(got.loops, impl.LoopOf(g, head))
	}
	for a := range g {
		over := make([]bool, len(g))
		for b := range g {
			over[b] = impl.DominatesIn(g, a, b)
		}
		got.over = append(got.over, trues(over))
	}
	return got
}

// numbersIn reads numbers with spaces between.
func numbersIn(text string) []int {
	var list []int
	for _, part := range strings.Fields(text) {
		n, err := strconv.Atoi(part)
		if err != nil {
			panic(text)
		}
		list = append(list, n)
	}
	return list
}

// listsIn reads lists of numbers with semicolons between, those without numbers, too: of a graph they are the edges of one node after the other.
func listsIn(text string) [][]int {
	var lists [][]int
	for _, part := range strings.Split(text, ";") {
		lists = append(lists, numbersIn(part))
	}
	return lists
}

// drawn is a graph with what chapter 7 tells of it, written out by hand.
// A loop is told with its head first, and a colon behind it.
type drawn struct {
	edges     string
	order     string
	doms      string
	reducible bool
	loops     []string
}

func (d drawn) graph() [][]int {
	return listsIn(d.edges)
}

// want is what is told; the nodes over which a node is are those from which one gets to it by doms.
func (d drawn) want() graphed {
	w := graphed{ok: true, order: numbersIn(d.order), doms: numbersIn(d.doms), reducible: d.reducible}
	for _, loop := range d.loops {
		head, nodes, _ := strings.Cut(loop, ":")
		w.heads = append(w.heads, numbersIn(head)...)
		w.loops = append(w.loops, numbersIn(nodes))
	}
	over := make([][]bool, len(w.doms))
	for a := range over {
		over[a] = make([]bool, len(w.doms))
	}
	for _, b := range w.order {
		for a := b; a >= 0; a = w.doms[a] {
			over[a][b] = true
		}
	}
	for a := range over {
		w.over = append(w.over, trues(over[a]))
	}
	return w
}

// reducibleOf is a graph that is reducible, otherOf one that is not.
func reducibleOf(edges string, order string, doms string, loops ...string) drawn {
	return drawn{edges, order, doms, true, loops}
}

func otherOf(edges string, order string, doms string, loops ...string) drawn {
	return drawn{edges, order, doms, false, loops}
}

// drawnWithoutLoops are rows and choices.
func drawnWithoutLoops() []drawn {
	return []drawn{
		reducibleOf("", "0", "-1"),
		reducibleOf("1;", "0 1", "-1 0"),
		reducibleOf("1; 2; 3;", "0 1 2 3", "-1 0 1 2"),
		reducibleOf("3; ; 1; 2", "0 3 2 1", "-1 2 3 0"),
		// A choice that meets again, at once or not, and one that does not.
		reducibleOf("1 2; 3; 3;", "0 2 1 3", "-1 0 0 0"),
		reducibleOf("2 1; 3; 3;", "0 1 2 3", "-1 0 0 0"),
		reducibleOf("1 2; 2;", "0 1 2", "-1 0 0"),
		reducibleOf("2 1; 2;", "0 1 2", "-1 0 0"),
		reducibleOf("1 2; ;", "0 2 1", "-1 0 0"),
		reducibleOf("1 2; 3; 3; 4;", "0 2 1 3 4", "-1 0 0 0 3"),
		reducibleOf("1; 2 3; 4; 4;", "0 1 3 2 4", "-1 0 1 1 1"),
		// A choice within a choice, and one behind another.
		reducibleOf("1 5; 2 3; 4; 4; 6; 6;", "0 5 1 3 2 4 6", "-1 0 1 1 1 0 0"),
		reducibleOf("1 2; 3; 3; 4 5; 6; 6;", "0 2 1 3 5 4 6", "-1 0 0 0 3 3 3"),
		// Two ways that part at the start, and meet far from there.
		reducibleOf("1 2; 3; 4; 5; 5;", "0 2 4 1 3 5", "-1 0 0 1 2 0"),
		reducibleOf("1 2; 3; 4; 5; 5 3;", "0 2 4 1 3 5", "-1 0 0 0 2 0"),
		// The order in which edges stand, and a node that is met on a longer way first.
		reducibleOf("1 2 3; ; ;", "0 3 2 1", "-1 0 0 0"),
		reducibleOf("3 2 1; ; ;", "0 1 2 3", "-1 0 0 0"),
		reducibleOf("2 3 1; ; ;", "0 1 3 2", "-1 0 0 0"),
		reducibleOf("2 1 3; 3; 1;", "0 2 1 3", "-1 0 0 0"),
		reducibleOf("3 1; 2; 3;", "0 1 2 3", "-1 0 1 0"),
		reducibleOf("1; 3 2; ; 2", "0 1 3 2", "-1 0 1 1"),
		// Several edges to the same node, and as many edges as there may be.
		reducibleOf("1 1 1;", "0 1", "-1 0"),
		reducibleOf("1 2 1 2; 2 2;", "0 1 2", "-1 0 0"),
		reducibleOf("1 1 1 1 1 1 1 1 1; 2;", "0 1 2", "-1 0 1"),
		reducibleOf("1 2 3 4 5 6 7 8 9; 9; ; ; ; ; ; ; ;", "0 8 7 6 5 4 3 2 1 9", "-1 0 0 0 0 0 0 0 0 0"),
	}
}

// drawnLoops are graphs with loops that are reducible.
func drawnLoops() []drawn {
	return []drawn{
		// One node with an edge to itself, or several.
		reducibleOf("0", "0", "-1", "0: 0"),
		reducibleOf("0 0 0 0 0 0 0 0 0", "0", "-1", "0: 0"),
		reducibleOf("1; 1", "0 1", "-1 0", "1: 1"),
		reducibleOf("1; 1 2;", "0 1 2", "-1 0 1", "1: 1"),
		reducibleOf("0 1;", "0 1", "-1 0", "0: 0"),
		// The start is a head.
		reducibleOf("1; 0", "0 1", "-1 0", "0: 0 1"),
		reducibleOf("1 2; 3; 3; 0", "0 2 1 3", "-1 0 0 0", "0: 0 1 2 3"),
		reducibleOf("1 2; 0;", "0 2 1", "-1 0 0", "0: 0 1"),
		reducibleOf("1 0; 2; 1 0 3;", "0 1 2 3", "-1 0 1 2", "0: 0 1 2", "1: 1 2"),
		// A loop with its test at the end, at the beginning, and in the middle.
		reducibleOf("1; 2; 1 3;", "0 1 2 3", "-1 0 1 2", "1: 1 2"),
		reducibleOf("1; 3 2; 1;", "0 1 2 3", "-1 0 1 1", "1: 1 2"),
		reducibleOf("1; 2 3; 1;", "0 1 3 2", "-1 0 1 1", "1: 1 2"),
		reducibleOf("1; 2; 3 4; 1;", "0 1 2 4 3", "-1 0 1 2 2", "1: 1 2 3"),
		// With a choice in it, and one that leaves it.
		reducibleOf("1; 2 3; 4; 4; 1 5;", "0 1 3 2 4 5", "-1 0 1 1 1 4", "1: 1 2 3 4"),
		reducibleOf("1; 2 3; 4; 5; 1 5;", "0 1 3 2 4 5", "-1 0 1 1 2 1", "1: 1 2 4"),
		// Loops within one another, and behind each other.
		reducibleOf("1; 2; 3; 2 4; 1 5;", "0 1 2 3 4 5", "-1 0 1 2 3 4", "1: 1 2 3 4", "2: 2 3"),
		reducibleOf("1; 2; 3; 3 2 1 0", "0 1 2 3", "-1 0 1 2", "0: 0 1 2 3", "1: 1 2 3", "2: 2 3", "3: 3"),
		reducibleOf("3; 2 4; 1; 1;", "0 3 1 4 2", "-1 3 1 0 1", "1: 1 2"),
		reducibleOf("1; 1 2; 3; 2 4;", "0 1 2 3 4", "-1 0 1 2 3", "1: 1", "2: 2 3"),
		reducibleOf("1; 2 3; 2 1; 3 4; 1", "0 1 3 4 2", "-1 0 1 1 3", "1: 1 2 3 4", "2: 2", "3: 3"),
		// Two loops with one head.
		reducibleOf("1; 2 3; 1; 1 4;", "0 1 3 4 2", "-1 0 1 1 3", "1: 1 2 3"),
		reducibleOf("1; 2; 1 3; 1 4;", "0 1 2 3 4", "-1 0 1 2 3", "1: 1 2 3"),
		reducibleOf("1 2; 0; 0", "0 2 1", "-1 0 0", "0: 0 1 2"),
		// Several edges back.
		reducibleOf("1 1 1; 2 2; 1 1 3 3;", "0 1 2 3", "-1 0 1 2", "1: 1 2"),
		reducibleOf("1; 1 1 2; 1 1", "0 1 2", "-1 0 1", "1: 1 2"),
		// An edge into a loop past its head is none, if it comes from the head of a loop around it.
		reducibleOf("1; 2 4; 3; 2 4; 1 5;", "0 1 2 3 4 5", "-1 0 1 2 1 4", "1: 1 2 3 4", "2: 2 3"),
	}
}

// drawnUnreached have nodes that are not reached, and lead to others or are led to by such ones alone.
func drawnUnreached() []drawn {
	return []drawn{
		reducibleOf(";", "0", "-1 -1"),
		reducibleOf("; 0", "0", "-1 -1"),
		reducibleOf("; 1", "0", "-1 -1"),
		reducibleOf("0; 0", "0", "-1 -1", "0: 0"),
		reducibleOf("1; ; 1 0 2;", "0 1", "-1 0 -1 -1"),
		reducibleOf("2; 2;", "0 2", "-1 -1 0"),
		// An edge from outside would be another way, into a loop, and to its head.
		reducibleOf("1; 2; 4; 2;", "0 1 2 4", "-1 0 1 -1 2"),
		reducibleOf("1; 2; 1 4; 2 1;", "0 1 2 4", "-1 0 1 -1 2", "1: 1 2"),
		reducibleOf("1; 2; 1; 1 2 3; 3 2", "0 1 2", "-1 0 1 -1 -1", "1: 1 2"),
		reducibleOf("2; 2 0; 3; 2", "0 2 3", "-1 -1 0 2", "2: 2 3"),
		// Two ways into a loop, all of which is not reached; a head there is none.
		reducibleOf("1; ; 3 4; 4; 3", "0 1", "-1 0 -1 -1 -1"),
		reducibleOf("; 2 3; 3 0; 2 0", "0", "-1 -1 -1 -1"),
		// A second way into a loop that is not reached.
		reducibleOf("1; 2; 1; 2", "0 1 2", "-1 0 1 -1", "1: 1 2"),
	}
}

// drawnOthers are graphs that are not reducible: two ways lead into a loop.
func drawnOthers() []drawn {
	return []drawn{
		otherOf("1 2; 2; 1", "0 1 2", "-1 0 0", "1: 1"),
		otherOf("2 1; 2; 1", "0 2 1", "-1 0 0", "2: 2"),
		otherOf("1; 2 3; 3; 2 4;", "0 1 2 3 4", "-1 0 1 1 3", "2: 2"),
		otherOf("1 2; 3; 3; 1 2", "0 1 3 2", "-1 0 0 0", "1: 1", "3: 3"),
		otherOf("1 3; 2; 3; 1", "0 1 2 3", "-1 0 1 0", "1: 1"),
		// The head is over one of the nodes from which edges lead back, and not over the other one.
		otherOf("1 2; 2 3; 1; 1", "0 1 3 2", "-1 0 0 1", "1: 1 3"),
		otherOf("1 2; 3 2; 1; 4; 1 5;", "0 1 2 3 4 5", "-1 0 0 1 3 4", "1: 1 3 4"),
		otherOf("1 2; 1 2; 1", "0 1 2", "-1 0 0", "1: 1"),
		// An edge back that is in order, beside one that is not, and around it.
		otherOf("1 2; 2; 1 3; 3 4;", "0 1 2 3 4", "-1 0 0 2 3", "1: 1", "3: 3"),
		otherOf("1 2; 2; 1 0", "0 1 2", "-1 0 0", "0: 0 1 2", "1: 1"),
		otherOf("1; 1 2 3; 3; 2 0", "0 1 2 3", "-1 0 1 1", "0: 0 1 2 3", "1: 1", "2: 2"),
		// Beside nodes that are not reached.
		otherOf("1 2; 2; 1; 1 2 3", "0 1 2", "-1 0 0 -1", "1: 1"),
	}
}

func drawnGraphs() []drawn {
	return slices.Concat(drawnWithoutLoops(), drawnLoops(), drawnUnreached(), drawnOthers())
}

// wantOrder searches in depth with a row of nodes that wait, each with how many of its edges were gone along.
func wantOrder(g [][]int) []int {
	met := make([]bool, len(g))
	met[0] = true
	waiting, gone := []int{0}, []int{0}
	var order []int
	for len(waiting) > 0 {
		k := len(waiting) - 1
		node := waiting[k]
		if gone[k] == len(g[node]) {
			order = slices.Insert(order, 0, node)
			waiting, gone = waiting[:k], gone[:k]
			continue
		}
		to := g[node][gone[k]]
		gone[k]++
		if !met[to] {
			met[to] = true
			waiting, gone = append(waiting, to), append(gone, 0)
		}
	}
	return order
}

// wantAbove tells for each node that is reached which ones are on all ways to it, as bits: less and less, until it stays.
func wantAbove(g [][]int, order []int) []uint32 {
	above := make([]uint32, len(g))
	for _, node := range order {
		above[node] = math.MaxUint32
	}
	above[0] = 1
	for shrinks := true; shrinks; {
		shrinks = false
		for _, from := range order {
			for _, to := range g[from] {
				less := above[to] & (above[from] | 1<<to)
				shrinks = shrinks || less != above[to]
				above[to] = less
			}
		}
	}
	return above
}

// wantLoop tells which nodes are in the loop of a head: those from which one gets, past nodes other than the head, to one that leads back to it.
func wantLoop(g [][]int, order []int, above []uint32, head int) []int {
	within := make([]bool, len(g))
	for _, node := range order {
		within[node] = node == head || above[node]>>head&1 == 1 && slices.Contains(g[node], head)
	}
	for grows := true; grows; {
		grows = false
		for _, from := range order {
			for _, to := range g[from] {
				if !within[from] && to != head && within[to] {
					within[from], grows = true, true
				}
			}
		}
	}
	return trues(within)
}

// wantGraphed is a second reading of chapter 7.
func wantGraphed(g [][]int) graphed {
	w := graphed{ok: true, order: wantOrder(g), reducible: true, over: make([][]int, len(g))}
	above := wantAbove(g, w.order)
	isHead := make([]bool, len(g))
	for _, from := range w.order {
		for _, to := range g[from] {
			if slices.Index(w.order, to) <= slices.Index(w.order, from) {
				isHead[to] = true
				w.reducible = w.reducible && above[from]>>to&1 == 1
			}
		}
	}
	w.heads = trues(isHead)
	for _, head := range w.heads {
		w.loops = append(w.loops, wantLoop(g, w.order, above, head))
	}
	for node := range g {
		nearest := -1
		for _, a := range w.order {
			if above[node]>>a&1 == 1 && a != node {
				nearest = a
			}
			if above[node]>>a&1 == 1 {
				w.over[a] = append(w.over[a], node)
			}
		}
		w.doms = append(w.doms, nearest)
	}
	return w
}

// checkGraphed compares what is told of a graph with the second reading, and returns it.
func checkGraphed(t *testing.T, g [][]int) graphed {
	t.Helper()
	got, want := graphedOf(g), wantGraphed(g)
	if !sameGraphed(got, want) {
		t.Errorf("of %v is told %v, not %v", g, got, want)
	}
	return got
}

// listsOf returns all lists of at most so many numbers below another one.
func listsOf(below int, long int) [][]int {
	lists := [][]int{nil}
	for k := 0; k < len(lists); k++ {
		if len(lists[k]) < long {
			for n := range below {
				lists = append(lists, append(slices.Clone(lists[k]), n))
			}
		}
	}
	return lists
}

// graphsOf returns all graphs of some nodes whose edges are some lists.
func graphsOf(count int, lists [][]int) [][][]int {
	graphs := [][][]int{nil}
	for range count {
		var more [][][]int
		for _, g := range graphs {
			for _, list := range lists {
				more = append(more, append(slices.Clone(g), list))
			}
		}
		graphs = more
	}
	return graphs
}

// smallGraphs are all graphs of at most three nodes with few edges, and some of four.
func smallGraphs() [][][]int {
	list := slices.Concat(graphsOf(1, listsOf(1, 9)), graphsOf(2, listsOf(2, 3)), graphsOf(3, listsOf(3, 2)))
	for k, g := range graphsOf(4, listsOf(4, 2)) {
		if k%41 == 0 {
			list = append(list, g)
		}
	}
	return list
}

// graph draws a graph of any edges.
func (l *lot) graph() [][]int {
	g := make([][]int, l.oneOf(4, 5, 6, 8, 12, 29, 30))
	most := l.oneOf(1, 2, 2, 3, 9)
	for node := range g {
		for range l.next(most + 1) {
			to := l.next(len(g))
			// Most edges lead not far on, so that there are long ways.
			if l.next(3) > 0 {
				to = min(node+1+l.next(3), len(g)-1)
			}
			g[node] = append(g[node], to)
		}
	}
	return g
}

// split makes two nodes of one: the new one is entered from the other alone, and each edge stays, goes on to the new one, or both.
func (l *lot) split(g [][]int, node int) [][]int {
	var stay, gone []int
	for _, to := range g[node] {
		where := l.next(3)
		if where != 0 {
			stay = append(stay, to)
		}
		if where != 1 {
			gone = append(gone, to)
		}
	}
	g[node] = append(stay, len(g))
	return append(g, gone)
}

// grown draws a graph that grows out of another one by nodes that are split, and by edges of nodes to themselves: it is reducible just if the other one is.
func (l *lot) grown(g [][]int, count int) [][]int {
	for len(g) < count {
		node := l.next(len(g))
		if len(g[node]) >= 8 {
			continue
		}
		if l.next(4) == 0 {
			g[node] = append(g[node], node)
		}
		g = l.split(g, node)
	}
	return l.mixed(g)
}

// shuffled returns the numbers from 0 on, so many, in another order.
func (l *lot) shuffled(count int) []int {
	list := upTo(count)
	for k := range list {
		other := k + l.next(count-k)
		list[k], list[other] = list[other], list[k]
	}
	return list
}

// renamed is a graph whose nodes have other numbers, and whose edges stand as they stood.
func renamed(g [][]int, names []int) [][]int {
	other := make([][]int, len(g))
	for node, edges := range g {
		for _, to := range edges {
			other[names[node]] = append(other[names[node]], names[to])
		}
	}
	return other
}

// turned is a graph whose edges stand in another order.
func (l *lot) turned(g [][]int) [][]int {
	other := make([][]int, len(g))
	for node, edges := range g {
		for _, k := range l.shuffled(len(edges)) {
			other[node] = append(other[node], edges[k])
		}
	}
	return other
}

// names draws new numbers for nodes, but the start keeps its own.
func (l *lot) names(count int) []int {
	names := []int{0}
	for _, n := range l.shuffled(count - 1) {
		names = append(names, n+1)
	}
	return names
}

func (l *lot) mixed(g [][]int) [][]int {
	return l.turned(renamed(g, l.names(len(g))))
}

// grownGraphs are graphs that are reducible, and others that are not.
func grownGraphs() ([][][]int, [][][]int) {
	l := &lot{state: 36}
	var list, others [][][]int
	for range 1000 {
		list = append(list, l.grown([][]int{nil}, l.oneOf(2, 4, 7, 15, 30)))
		others = append(others, l.grown([][]int{{1, 2}, {2}, {1}}, l.oneOf(3, 4, 7, 15, 30)))
	}
	return list, others
}

// largestGraphs have as many nodes as there may be.
func largestGraphs() [][][]int {
	row, around, back, full := make([][]int, 30), make([][]int, 30), make([][]int, 30), make([][]int, 30)
	for k := range 30 {
		if k < 29 {
			row[k] = []int{k + 1}
			back[29-k] = []int{28 - k}
		}
		around[k] = []int{(k + 1) % 30}
		for far := range 9 {
			full[k] = append(full[k], (k+far+1)%30)
		}
	}
	back[0] = []int{29}
	return [][][]int{row, around, back, full, make([][]int, 30)}
}

// allGraphs has graphs of all kinds.
func allGraphs() [][][]int {
	var list [][][]int
	for _, d := range drawnGraphs() {
		list = append(list, d.graph())
	}
	good, others := grownGraphs()
	l := &lot{state: 32}
	for range 3000 {
		list = append(list, l.graph())
	}
	return slices.Concat(list, smallGraphs(), good, others, largestGraphs())
}

// fewerGraphs has some of allGraphs, for what takes long.
func fewerGraphs() [][][]int {
	var list [][][]int
	for k, g := range allGraphs() {
		if k%3 == 0 {
			list = append(list, g)
		}
	}
	return list
}

// justReducible has those of allGraphs that are told to be reducible.
func justReducible(t *testing.T) [][][]int {
	list := slices.DeleteFunc(allGraphs(), func(g [][]int) bool { return !impl.Reducible(g) })
	if len(list) < 3000 {
		t.Errorf("just %d graphs are reducible", len(list))
	}
	return list
}

func TestGraphsAreTold(t *testing.T) {
	for _, d := range drawnGraphs() {
		if got, want := graphedOf(d.graph()), d.want(); !sameGraphed(got, want) {
			t.Errorf("of %q is told %v, not %v", d.edges, got, want)
		}
		checkGraphed(t, d.graph())
	}
}

func TestGraphsOfAllKinds(t *testing.T) {
	counts := map[string]int{}
	for _, g := range allGraphs() {
		got := checkGraphed(t, g)
		counts["graphs"]++
		counts["not reached"] += min(len(g)-len(got.order), 1)
		counts["large"] += len(got.order) / 15
		counts["heads"] += len(got.heads)
		if !got.reducible {
			counts["not reducible"]++
		} else if len(got.heads) > 0 {
			counts["reducible with loops"]++
		}
		for k, loop := range got.loops {
			counts["large loops"] += min(len(loop)/4, 1)
			if len(loop) == 1 && !slices.Contains(g[got.heads[k]], got.heads[k]) {
				counts["loops of heads that are over none"]++
			}
		}
	}
	for _, what := range []string{"graphs", "not reached", "large", "heads", "not reducible", "reducible with loops", "large loops", "loops of heads that are over none"} {
		if counts[what] < 300 {
			t.Errorf("just %d of %s", counts[what], what)
		}
	}
}

// Promise 32: the start is reached first.

func TestPromise32Values(t *testing.T) {
	for _, d := range drawnGraphs() {
		if list := impl.OrderOf(d.graph()); !slices.Equal(list, numbersIn(d.order)) {
			t.Errorf("OrderOf %q = %v, not %s", d.edges, list, d.order)
		}
	}
}

func TestPromise32TheStartIsFirst(t *testing.T) {
	for _, g := range allGraphs() {
		order := impl.OrderOf(g)
		if len(order) == 0 || order[0] != 0 || len(order) > len(g) {
			t.Errorf("OrderOf(%v) = %v", g, order)
			continue
		}
		counts := make([]int, len(g))
		for _, node := range order {
			counts[node]++
			if counts[node] > 1 {
				t.Errorf("OrderOf(%v) = %v", g, order)
			}
		}
		// Wherever edges lead from there is reached, too.
		for _, node := range order {
			for _, to := range g[node] {
				if counts[to] == 0 {
					t.Errorf("OrderOf(%v) = %v, without %d", g, order, to)
				}
			}
		}
	}
}

func TestPromise32TheMostNodes(t *testing.T) {
	around := []int{0}
	for node := 29; node > 0; node-- {
		around = append(around, node)
	}
	for k, want := range [][]int{upTo(30), upTo(30), around, upTo(30), {0}} {
		if list := impl.OrderOf(largestGraphs()[k]); !slices.Equal(list, want) {
			t.Errorf("OrderOf(%v) = %v, not %v", largestGraphs()[k], list, want)
		}
	}
}

// The search asks just in which order edges stand, and not for the numbers of nodes.
func TestPromise32OtherNumbers(t *testing.T) {
	l := &lot{state: 33}
	for _, g := range allGraphs() {
		names := l.names(len(g))
		var want []int
		for _, node := range impl.OrderOf(g) {
			want = append(want, names[node])
		}
		if list := impl.OrderOf(renamed(g, names)); !slices.Equal(list, want) {
			t.Errorf("OrderOf(%v) = %v, not %v", renamed(g, names), list, want)
		}
	}
}

// Promise 33: to each node that is reached an edge leads from one ahead of it, but to the start.

func TestPromise33Values(t *testing.T) {
	// For each node that is reached, but the start, an edge that leads to it from ahead, by hand.
	for edges, want := range map[string]string{
		"":                   "",
		"0":                  "",
		"1; 2; 0":            "0 1; 1 2",
		"1 2; 3; 3;":         "0 1; 0 2; 2 3",
		"2 1; 3; 3;":         "0 1; 0 2; 1 3",
		"1 2; 2; 1":          "0 1; 1 2",
		"2 1; 2; 1":          "0 2; 2 1",
		"1; ; 1 3; 2 0":      "0 1",
		"3; ; 1; 2 1":        "0 3; 3 2; 2 1",
		"1; 3 2; 1; 4; 0":    "0 1; 1 2; 1 3; 3 4",
		"1 2 3; 3; ; 4; 1 2": "0 1; 1 3; 3 4; 4 2",
	} {
		order := impl.OrderOf(listsIn(edges))
		met := []int{0}
		for _, e := range listsIn(want) {
			if len(e) == 0 {
				continue
			}
			met = append(met, e[1])
			if from := slices.Index(order, e[0]); from < 0 || slices.Index(order, e[1]) <= from {
				t.Errorf("OrderOf %q = %v, but %d does not stand behind %d", edges, order, e[1], e[0])
			}
		}
		if len(met) != len(order) {
			t.Errorf("OrderOf %q = %v, not of %v", edges, order, met)
		}
	}
}

func TestPromise33EdgesFromAhead(t *testing.T) {
	for _, g := range allGraphs() {
		order := impl.OrderOf(g)
		for k, node := range order[1:] {
			if !slices.ContainsFunc(order[:k+1], func(from int) bool { return slices.Contains(g[from], node) }) {
				t.Errorf("OrderOf(%v) = %v, but no edge leads to %d from ahead", g, order, node)
			}
		}
	}
}

// An edge leads back just if one gets along edges on from its end to its beginning, if the graph is reducible or not.
func TestPromise33WhatLeadsBackIsACircle(t *testing.T) {
	for _, g := range allGraphs() {
		order := impl.OrderOf(g)
		if len(impl.HeadsOf(g)) == 0 {
			for k, node := range order {
				if slices.ContainsFunc(g[node], func(to int) bool { return slices.Contains(order[:k+1], to) }) {
					t.Errorf("an edge leads back from %d in %v, whose order is %v", node, g, order)
				}
			}
		}
		for _, head := range impl.HeadsOf(g) {
			if !slices.Contains(order, head) || !leadsBack(g, head) {
				t.Errorf("HeadsOf(%v) has %d", g, head)
			}
		}
	}
}

// leadsBack reports whether one gets from a node along edges to the node again.
func leadsBack(g [][]int, node int) bool {
	known := slices.Clone(g[node])
	for k := 0; k < len(known); k++ {
		for _, to := range g[known[k]] {
			if !slices.Contains(known, to) {
				known = append(known, to)
			}
		}
	}
	return slices.Contains(known, node)
}

// Promise 34: the nearest node that is on all ways is on all ways.

func TestPromise34Values(t *testing.T) {
	for _, d := range drawnGraphs() {
		if list := impl.DomsOf(d.graph()); !slices.Equal(list, numbersIn(d.doms)) {
			t.Errorf("DomsOf %q = %v, not %s", d.edges, list, d.doms)
		}
	}
	for edges, want := range map[string]string{
		"":                            "0",
		"0":                           "0",
		"1;":                          "0 1; 1",
		"; 0":                         "0;",
		"; 1":                         "0;",
		"1; 0":                        "0 1; 1",
		"1 2; 3; 3; 0":                "0 1 2 3; 1; 2; 3",
		"1 2; 2; 1":                   "0 1 2; 1; 2",
		"1; 2; 1 4; 2 1;":             "0 1 2 4; 1 2 4; 2 4; ; 4",
		"1; 2 3; 4; 4; 1 5;":          "0 1 2 3 4 5; 1 2 3 4 5; 2; 3; 4 5; 5",
		"1 2; 3 2; 1; 4; 1 5;":        "0 1 2 3 4 5; 1 3 4 5; 2; 3 4 5; 4 5; 5",
		"1 2; 3; 4; 5; 5;":            "0 1 2 3 4 5; 1 3; 2 4; 3; 4; 5",
		"3; ; 1; 2; 3 1":              "0 1 2 3; 1; 1 2; 1 2 3;",
		"1; 2; 3; 4; 5; 6; 7; 4 8; 0": "0 1 2 3 4 5 6 7 8; 1 2 3 4 5 6 7 8; 2 3 4 5 6 7 8; 3 4 5 6 7 8; 4 5 6 7 8; 5 6 7 8; 6 7 8; 7 8; 8",
	} {
		if over := graphedOf(listsIn(edges)).over; !sameLists(over, listsIn(want)) {
			t.Errorf("in %q the nodes are over %v, not over %s", edges, over, want)
		}
	}
}

func TestPromise34TheNearestIsOver(t *testing.T) {
	for _, g := range allGraphs() {
		order, doms := impl.OrderOf(g), impl.DomsOf(g)
		if len(doms) != len(g) {
			t.Fatalf("DomsOf(%v) = %v", g, doms)
		}
		for node, nearest := range doms {
			if node == 0 || !slices.Contains(order, node) {
				if nearest != -1 {
					t.Errorf("DomsOf(%v) = %v, with %d, not -1, for %d", g, doms, nearest, node)
				}
			} else if nearest == node || !impl.DominatesIn(g, nearest, node) {
				t.Errorf("DomsOf(%v) = %v, but %d is not over %d", g, doms, nearest, node)
			}
		}
	}
}

// eachWay goes along all ways from the start that come to no node twice, and tells each one.
func eachWay(g [][]int, way []int, tell func(way []int)) {
	tell(way)
	for _, to := range g[way[len(way)-1]] {
		if !slices.Contains(way, to) {
			eachWay(g, append(slices.Clone(way), to), tell)
		}
	}
}

// What is on all ways is on all those that come to no node twice, and the other way round.
func TestPromise34AllWays(t *testing.T) {
	for k, g := range slices.Concat(smallGraphs(), allGraphs()) {
		if len(g) > 6 || k%2 != 0 {
			continue
		}
		ways := make([]int, len(g))
		on := make([][]int, len(g))
		for a := range on {
			on[a] = make([]int, len(g))
		}
		eachWay(g, []int{0}, func(way []int) {
			end := way[len(way)-1]
			ways[end]++
			for _, a := range way {
				on[a][end]++
			}
		})
		for a := range g {
			for b := range g {
				if is, want := impl.DominatesIn(g, a, b), ways[b] > 0 && on[a][b] == ways[b]; is != want {
					t.Errorf("DominatesIn(%v, %d, %d) = %t", g, a, b, is)
				}
			}
		}
	}
}

func TestPromise34TheMostNodes(t *testing.T) {
	var ahead, behind []int
	for node := range 30 {
		ahead = append(ahead, node-1)
		behind = append(behind, node+1)
	}
	behind[0], behind[29] = -1, 0
	// In the fourth graph edges lead from each node to the nine behind it, so that each one but the start can be passed.
	none := append([]int{-1}, zeros(29)...)
	graphs := largestGraphs()
	for k, want := range [][]int{ahead, ahead, behind, none, sameBytes(-1, 30)} {
		if list := impl.DomsOf(graphs[k]); !slices.Equal(list, want) {
			t.Errorf("DomsOf(%v) = %v, not %v", graphs[k], list, want)
		}
	}
	for a := range 30 {
		for b := range 30 {
			for k, want := range []bool{a <= b, a <= b, a == 0 || b > 0 && a >= b, a == 0 || a == b, a == 0 && b == 0} {
				if is := impl.DominatesIn(graphs[k], a, b); is != want {
					t.Errorf("DominatesIn(%v, %d, %d) = %t", graphs[k], a, b, is)
				}
			}
		}
	}
}

// Promise 35: what is on all ways to a node is on all ways to the nearest one.

func TestPromise35Values(t *testing.T) {
	g := listsIn("1; 2 3; 4; 4; 1 5;")
	for _, pair := range [][2]int{{0, 5}, {1, 5}, {4, 5}, {0, 4}, {1, 4}, {0, 3}, {1, 3}, {0, 2}, {1, 2}, {0, 1}} {
		if !impl.DominatesIn(g, pair[0], pair[1]) {
			t.Errorf("%d is not over %d", pair[0], pair[1])
		}
	}
	for _, pair := range [][2]int{{2, 5}, {3, 5}, {2, 4}, {3, 4}, {2, 3}, {3, 2}, {5, 4}, {4, 1}, {1, 0}, {5, 1}} {
		if impl.DominatesIn(g, pair[0], pair[1]) {
			t.Errorf("%d is over %d", pair[0], pair[1])
		}
	}
	for node := range g {
		if !impl.DominatesIn(g, node, node) {
			t.Errorf("%d is not over itself", node)
		}
	}
}

func TestPromise35WhatIsOverIsOverTheNearest(t *testing.T) {
	checked := 0
	for _, g := range fewerGraphs() {
		doms := impl.DomsOf(g)
		for a := range g {
			for b := range g {
				if a != b && impl.DominatesIn(g, a, b) {
					checked++
					if !impl.DominatesIn(g, a, doms[b]) {
						t.Errorf("in %v %d is over %d, but not over %d", g, a, b, doms[b])
					}
				}
			}
		}
	}
	if checked < 10000 {
		t.Errorf("just %d pairs", checked)
	}
}

// Of two nodes that are over a third one, one is over the other; and two different ones are not over each other.
func TestPromise35WhatIsOverStandsInARow(t *testing.T) {
	for _, g := range fewerGraphs() {
		order := impl.OrderOf(g)
		over := graphedOf(g).over
		for k, a := range order {
			for _, b := range order[k+1:] {
				if slices.Contains(over[b], a) {
					t.Errorf("in %v %d is over %d, but behind it in %v", g, b, a, order)
				}
				both := slices.ContainsFunc(over[a], func(c int) bool { return slices.Contains(over[b], c) })
				if both && !slices.Contains(over[a], b) {
					t.Errorf("in %v %d and %d are over the same, but not over each other", g, a, b)
				}
			}
		}
	}
}

// Neither the numbers of nodes nor the order of edges matter for what is on all ways, and for what is reducible.
func TestPromise35OtherNumbersAndOrders(t *testing.T) {
	l := &lot{state: 35}
	for _, g := range allGraphs() {
		names := l.names(len(g))
		other := l.turned(renamed(g, names))
		got, doms := impl.DomsOf(other), impl.DomsOf(g)
		for node, nearest := range doms {
			if nearest >= 0 {
				nearest = names[nearest]
			}
			if got[names[node]] != nearest {
				t.Errorf("DomsOf(%v) = %v, but DomsOf(%v) = %v", g, doms, other, got)
			}
		}
		if is := impl.Reducible(other); is != impl.Reducible(g) {
			t.Errorf("Reducible(%v) = %t", other, is)
		}
	}
}

// Promise 36: each head has a loop, if the graph is reducible.

func TestPromise36Values(t *testing.T) {
	for _, d := range drawnGraphs() {
		want := d.want()
		if list := impl.HeadsOf(d.graph()); !slices.Equal(list, want.heads) {
			t.Errorf("HeadsOf %q = %v, not %v", d.edges, list, want.heads)
		}
		if is := impl.Reducible(d.graph()); is != d.reducible {
			t.Errorf("Reducible %q = %t", d.edges, is)
		}
		for k, head := range want.heads {
			if list := impl.LoopOf(d.graph(), head); !slices.Equal(list, want.loops[k]) {
				t.Errorf("LoopOf %q, %d = %v, not %v", d.edges, head, list, want.loops[k])
			}
		}
	}
}

func TestPromise36EachHeadHasALoop(t *testing.T) {
	checked := 0
	for _, g := range justReducible(t) {
		heads := impl.HeadsOf(g)
		for k, head := range heads {
			checked++
			loop := impl.LoopOf(g, head)
			if !slices.Contains(loop, head) || !slices.IsSorted(loop) || len(slices.Compact(slices.Clone(loop))) != len(loop) {
				t.Errorf("LoopOf(%v, %d) = %v", g, head, loop)
			}
			if k > 0 && heads[k-1] >= head {
				t.Errorf("HeadsOf(%v) = %v", g, heads)
			}
			// An edge of the loop leads to the head.
			if !slices.ContainsFunc(loop, func(from int) bool { return slices.Contains(g[from], head) }) {
				t.Errorf("LoopOf(%v, %d) = %v, from which no edge leads back", g, head, loop)
			}
		}
	}
	if checked < 3000 {
		t.Errorf("just %d heads", checked)
	}
}

func TestPromise36WhatIsReducible(t *testing.T) {
	list, others := grownGraphs()
	for _, g := range list {
		if !impl.Reducible(g) {
			t.Errorf("Reducible(%v) = false", g)
		}
	}
	for _, g := range others {
		if impl.Reducible(g) {
			t.Errorf("Reducible(%v) = true", g)
		}
	}
}

func TestPromise36TheLargestLoops(t *testing.T) {
	around, back, full := largestGraphs()[1], largestGraphs()[2], largestGraphs()[3]
	if list := impl.LoopOf(around, 0); !slices.Equal(list, upTo(30)) || !slices.Equal(impl.HeadsOf(around), places(0)) || !impl.Reducible(around) {
		t.Errorf("LoopOf = %v", list)
	}
	if list := impl.LoopOf(back, 0); !slices.Equal(list, upTo(30)) || !slices.Equal(impl.HeadsOf(back), places(0)) || !impl.Reducible(back) {
		t.Errorf("LoopOf = %v", list)
	}
	// Nine nodes have edges that lead around, to the first nine.
	if list := impl.HeadsOf(full); !slices.Equal(list, upTo(9)) || impl.Reducible(full) || !slices.Equal(impl.LoopOf(full, 0), upTo(30)) || !slices.Equal(impl.LoopOf(full, 8), places(8)) {
		t.Errorf("HeadsOf = %v", list)
	}
	// Each node of a row leads back to itself and to the one ahead of it: loops within one another, all of which end at the last node.
	var g [][]int
	for node := range 30 {
		g = append(g, []int{max(node-1, 0), node, min(node+1, 29)})
	}
	if list := impl.HeadsOf(g); !slices.Equal(list, upTo(30)) || !impl.Reducible(g) {
		t.Errorf("HeadsOf = %v", list)
	}
	for head := range g {
		if list := impl.LoopOf(g, head); !slices.Equal(list, upTo(30)[head:]) {
			t.Errorf("LoopOf %d = %v", head, list)
		}
	}
}

// Promise 38: in a graph that is reducible the head is over all of its loop.

func TestPromise38Values(t *testing.T) {
	g := listsIn("1; 2; 3; 2 4; 1 5;")
	for head, want := range map[int][]int{1: {1, 2, 3, 4}, 2: {2, 3}} {
		loop := impl.LoopOf(g, head)
		if !slices.Equal(loop, want) {
			t.Errorf("LoopOf %d = %v", head, loop)
		}
		for node := range g {
			// The head is over what is behind the loop, too, but not over what is ahead of it.
			if is := impl.DominatesIn(g, head, node); is != (node >= head) {
				t.Errorf("DominatesIn %d, %d = %t", head, node, is)
			}
		}
	}
}

func TestPromise38TheHeadIsOverItsLoop(t *testing.T) {
	checked := 0
	for _, g := range justReducible(t) {
		for _, head := range impl.HeadsOf(g) {
			for _, node := range impl.LoopOf(g, head) {
				checked++
				if !impl.DominatesIn(g, head, node) {
					t.Errorf("in %v %d is in the loop of %d, but this is not over it", g, node, head)
				}
			}
		}
	}
	if checked < 10000 {
		t.Errorf("just %d nodes", checked)
	}
}

// Loops of two heads have nothing in common, or one is in the other one.
func TestPromise38LoopsAreWithinOneAnother(t *testing.T) {
	for _, g := range justReducible(t) {
		heads := impl.HeadsOf(g)
		for _, a := range heads {
			for _, b := range heads {
				one, other := impl.LoopOf(g, a), impl.LoopOf(g, b)
				within := func(node int) bool { return slices.Contains(other, node) }
				if a != b && slices.Contains(other, a) && slices.ContainsFunc(one, func(node int) bool { return !within(node) }) {
					t.Errorf("in %v %d is in the loop of %d, but not its loop, %v", g, a, b, one)
				}
				if a != b && slices.ContainsFunc(one, within) && !within(a) && !slices.Contains(one, b) {
					t.Errorf("in %v the loops of %d and %d share nodes", g, a, b)
				}
			}
		}
	}
}

// What is told of what is no graph, of nodes that there are not, and of nodes that are no heads, is nothing.

// noNodes are numbers that are no nodes of a graph.
func noNodes(g [][]int) []int {
	return []int{math.MinInt, -65536, -2, -1, len(g), len(g) + 1, 30, 31, 32, 64, 65536, math.MaxInt}
}

// badGraphs are no graphs.
func badGraphs() [][][]int {
	list := [][][]int{
		nil,
		{},
		{{1}},
		{{-1}},
		{{0, 0, 0, 0, 0, 0, 0, 0, 0, 0}},
		{{1}, {2}, {3}},
		{{1}, {0, 0, 0, 0, 0, 0, 0, 0, 0, 0}},
		make([][]int, 31),
		make([][]int, 100000),
		append(largestGraphs()[0], nil),
		append(largestGraphs()[1], []int{0}),
		{make([]int, 100000)},
	}
	// At each place of a graph, also at nodes that are not reached.
	for _, edges := range []string{"1 2; 3; 3; 0", "1; 2; 1 4; 2 1;", "0;", largestRow()} {
		for node := range listsIn(edges) {
			for _, to := range noNodes(listsIn(edges)) {
				first, last, more := listsIn(edges), listsIn(edges), listsIn(edges)
				first[node] = append([]int{to}, first[node]...)
				last[node] = append(last[node], to)
				more[node] = append(slices.Clone(more[node]), zeros(10-len(more[node]))...)
				list = append(list, first, last, more)
			}
		}
	}
	return list
}

func largestRow() string {
	var edges []string
	for node := range 29 {
		edges = append(edges, strconv.Itoa(node+1))
	}
	return strings.Join(edges, ";") + ";"
}

func TestNothingIsToldOfNoGraphs(t *testing.T) {
	for k, g := range badGraphs() {
		if impl.GraphOk(g) || impl.Reducible(g) || len(impl.OrderOf(g)) != 0 || len(impl.DomsOf(g)) != 0 || len(impl.HeadsOf(g)) != 0 {
			t.Errorf("something is told of %d, which is no graph", k)
		}
		for _, a := range append([]int{0, 1, 2, 3}, noNodes(g)...) {
			if len(impl.LoopOf(g, a)) != 0 {
				t.Errorf("LoopOf %d, which is no graph, %d = %v", k, a, impl.LoopOf(g, a))
			}
			for _, b := range append([]int{0, 1, 2, 3}, noNodes(g)...) {
				if impl.DominatesIn(g, a, b) {
					t.Errorf("DominatesIn %d, which is no graph, %d, %d = true", k, a, b)
				}
			}
		}
	}
}

// With as many nodes and edges as there may be, and with the last node as an end, it is a graph.
func TestGraphsOfAsManyAsThereMayBe(t *testing.T) {
	for _, g := range [][][]int{{nil}, {{}}, {zeros(9)}, {{1}, zeros(9)}, make([][]int, 30), append(make([][]int, 29), sameBytes(29, 9)), largestGraphs()[3]} {
		if !impl.GraphOk(g) || len(impl.OrderOf(g)) == 0 || len(impl.DomsOf(g)) != len(g) || !impl.DominatesIn(g, 0, 0) {
			t.Errorf("%v is told to be no graph", g)
		}
	}
}

func TestNoNodesAreOverNothing(t *testing.T) {
	for _, d := range drawnGraphs() {
		g := d.graph()
		order := numbersIn(d.order)
		for _, a := range noNodes(g) {
			for b := range g {
				checkNotOver(t, g, a, b)
			}
			checkNotOver(t, g, a, a)
			checkNotOver(t, g, a, -1)
		}
		for a := range g {
			for b := range g {
				if !slices.Contains(order, a) {
					checkNotOver(t, g, a, b)
				}
			}
		}
	}
	// What is not reached is not over itself, and what is on all ways from there counts for nothing.
	g := listsIn("; 1 2; 3; 0")
	for a := 1; a < 4; a++ {
		for b := range g {
			checkNotOver(t, g, a, b)
		}
	}
}

// checkNotOver checks a pair both ways round.
func checkNotOver(t *testing.T, g [][]int, a int, b int) {
	t.Helper()
	if impl.DominatesIn(g, a, b) || impl.DominatesIn(g, b, a) {
		t.Errorf("DominatesIn(%v, %d, %d) = %t, and %t the other way round", g, a, b, impl.DominatesIn(g, a, b), impl.DominatesIn(g, b, a))
	}
}

func TestNoHeadsHaveNoLoops(t *testing.T) {
	for _, d := range drawnGraphs() {
		g := d.graph()
		for _, node := range slices.Concat(upTo(len(g)), noNodes(g)) {
			if list := impl.LoopOf(g, node); !slices.Contains(d.want().heads, node) && len(list) != 0 {
				t.Errorf("LoopOf %q, %d, which is no head, = %v", d.edges, node, list)
			}
		}
	}
	// Within a loop, ahead of it, behind it, and not reached, with an edge to itself.
	g := listsIn("1; 2; 1 3; ; 4 1 2")
	for _, node := range []int{0, 2, 3, 4} {
		if list := impl.LoopOf(g, node); len(list) != 0 {
			t.Errorf("LoopOf %d = %v", node, list)
		}
	}
}

// What is returned is new, and what is told stays.

func copiedGraph(g [][]int) [][]int {
	var list [][]int
	for _, edges := range g {
		list = append(list, slices.Clone(edges))
	}
	return list
}

// guardedGraph has the same edges as a graph, with another number behind those of each node, and more behind all of them.
func guardedGraph(g [][]int) [][]int {
	var list [][]int
	for _, edges := range g {
		list = append(list, append(slices.Clone(edges), 55555)[:len(edges)])
	}
	return append(list, []int{66666})[:len(g)]
}

func isGuardedGraph(g [][]int) bool {
	for _, edges := range g {
		if edges[:len(edges)+1][len(edges)] != 55555 {
			return false
		}
	}
	return slices.Equal(g[:len(g)+1][len(g)], []int{66666})
}

// graphLists has all lists that are told of a graph.
func graphLists(g [][]int) [][]int {
	lists := [][]int{impl.OrderOf(g), impl.DomsOf(g), impl.HeadsOf(g)}
	for node := range g {
		lists = append(lists, impl.LoopOf(g, node))
	}
	return lists
}

func someGraphs() [][][]int {
	var list [][][]int
	for _, d := range drawnGraphs() {
		list = append(list, d.graph())
	}
	return append(list, largestGraphs()...)
}

func TestWhatIsToldOfGraphsSharesNothing(t *testing.T) {
	for _, kept := range someGraphs() {
		g := copiedGraph(kept)
		want := graphLists(kept)
		first, second := graphLists(g), graphLists(g)
		for k := range first {
			spoil(first[k])
			if !sameLists(first[k+1:], want[k+1:]) {
				t.Errorf("list %d of %v shares memory with another one", k, kept)
			}
		}
		if !sameLists(g, kept) || !sameLists(second, want) {
			t.Errorf("what is told of %v shares memory", kept)
		}
		if third := graphLists(g); !sameLists(third, want) {
			t.Errorf("of %v is told %v after earlier results were changed", kept, third)
		}
		for _, edges := range g {
			spoil(edges)
		}
		if !sameLists(second, want) {
			t.Errorf("what is told of %v shares memory with it", kept)
		}
	}
}

func TestGraphsAreNotChanged(t *testing.T) {
	for k, g := range slices.Concat(someGraphs(), smallGraphs()[:500], badGraphs()) {
		if len(g) > 31 {
			continue
		}
		guarded := guardedGraph(g)
		first := graphedOf(guarded)
		if second := graphedOf(guarded); !sameGraphed(first, second) {
			t.Errorf("graph %d is told in different ways", k)
		}
		for _, node := range slices.Concat(upTo(len(g)), noNodes(g)) {
			impl.LoopOf(guarded, node)
			impl.DominatesIn(guarded, node, 0)
			impl.DominatesIn(guarded, 0, node)
		}
		if !sameLists(guarded, g) || !isGuardedGraph(guarded) {
			t.Errorf("graph %d was changed", k)
		}
	}
}

// Nodes may share their edges, or the memory behind them.
func TestGraphsOfSharedEdges(t *testing.T) {
	edges := []int{1, 2, 0, 2, 1}
	g := [][]int{edges[:2], edges[1:4], edges[:3], edges[:2]}
	want := wantGraphed(copiedGraph(g))
	if got := graphedOf(g); !sameGraphed(got, want) || !slices.Equal(edges, []int{1, 2, 0, 2, 1}) {
		t.Errorf("of %v is told %v, not %v", g, got, want)
	}
}
