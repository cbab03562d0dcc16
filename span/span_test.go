package span

import (
	"math"
	"slices"
	"testing"

	"ebbtide/api"
	"ebbtide/cost"
	"ebbtide/level"
	"ebbtide/maxflow"
	"ebbtide/static"
)

const (
	most  = math.MaxInt64
	least = math.MinInt64
	// twenty is what an arc's Cap and Time may be at most.
	twenty = 1048576
	// longest is the greatest horizon.
	longest = 1024
)

// numbers returns a function that returns one number after the other, the same
// ones in each run.
func numbers(seed uint64) func(below int) int {
	return func(below int) int {
		seed = seed*6364136223846793005 + 1442695040888963407
		return int(seed>>33) % below
	}
}

// arc returns an arc.
func arc(from, to, width, time int) api.Arc {
	return api.Arc{From: from, To: to, Cap: width, Time: time}
}

// The plain ways of working out what the chapter asks for, each by another
// method than the package's. The networks and flows that they are given are
// right.

// staysAnew returns for each node what stays there of a flow.
func staysAnew(n api.Net, f []int) []int {
	stays := make([]int, n.Nodes)
	for i, a := range n.Arcs {
		stays[a.From] -= f[i]
		stays[a.To] += f[i]
	}
	return stays
}

// isBalanced reports whether nothing of a flow stays but at s and the sink.
func isBalanced(n api.Net, s, sink int, f []int) bool {
	stays := staysAnew(n, f)
	stays[s], stays[sink] = 0, 0
	return !slices.ContainsFunc(stays, func(k int) bool { return k != 0 })
}

// worthAnew returns the worth of a flow to the sink: what stays there, for each
// point of time, and for each arc less the time that it takes.
func worthAnew(n api.Net, sink int, f []int, span int) int {
	stays, sum := staysAnew(n, f)[sink], 0
	for range span + 1 {
		sum += stays
	}
	for i, a := range n.Arcs {
		sum -= a.Time * f[i]
	}
	return sum
}

// allFlows calls do with each flow of the network.
func allFlows(n api.Net, do func(f []int)) {
	f := zero(n)
	var fill func(place int)
	fill = func(place int) {
		if place == len(f) {
			do(f)
			return
		}
		for k := range n.Arcs[place].Cap + 1 {
			f[place] = k
			fill(place + 1)
		}
		f[place] = 0
	}
	fill(0)
}

// mostOfAllFlows returns the greatest worth within each horizon up to the given
// one, by trying all flows.
func mostOfAllFlows(n api.Net, s, sink, span int) []int {
	out := slices.Repeat([]int{least}, span+1)
	allFlows(n, func(f []int) {
		if isBalanced(n, s, sink, f) {
			for at := range out {
				out[at] = max(out[at], worthAnew(n, sink, f, at))
			}
		}
	})
	return out
}

// edge is where one may go to, and how much room there is. Each one stands beside
// its opposite.
type edge struct{ to, room int }

// copies is a network with a copy of each node for each point of time, and two
// more.
type copies struct {
	edges []edge
	from  [][]int
	been  []bool
}

// join adds an edge and its opposite.
func (x *copies) join(from, to, room int) {
	x.from[from] = append(x.from[from], len(x.edges))
	x.from[to] = append(x.from[to], len(x.edges)+1)
	x.edges = append(x.edges, edge{to, room}, edge{from, 0})
}

// move moves as much as k from a copy to the goal on any way, and returns how
// much.
func (x *copies) move(node, goal, k int) int {
	if node == goal {
		return k
	}
	x.been[node] = true
	for _, i := range x.from[node] {
		to := x.edges[i].to
		if x.edges[i].room == 0 || x.been[to] {
			continue
		}
		if moved := x.move(to, goal, min(k, x.edges[i].room)); moved > 0 {
			x.edges[i].room -= moved
			x.edges[i^1].room += moved
			return moved
		}
	}
	return 0
}

// arrivesInCopies returns how much can arrive within the horizon if it moves
// through the copies. Nodes keep what arrives if they may.
func arrivesInCopies(n api.Net, s, sink, span int) int {
	begin := n.Nodes * (span + 1)
	x := &copies{from: make([][]int, begin+2)}
	for at := range span + 1 {
		for _, a := range n.Arcs {
			if at+a.Time <= span {
				x.join(at*n.Nodes+a.From, (at+a.Time)*n.Nodes+a.To, a.Cap)
			}
		}
		for node := range n.Nodes {
			if n.Hold && at < span {
				x.join(at*n.Nodes+node, (at+1)*n.Nodes+node, 1<<40)
			}
		}
		x.join(begin, at*n.Nodes+s, 1<<40)
		x.join(at*n.Nodes+sink, begin+1, 1<<40)
	}
	sum := 0
	for {
		x.been = make([]bool, begin+2)
		moved := x.move(begin, begin+1, most)
		if moved == 0 {
			return sum
		}
		sum += moved
	}
}

// step is a step with room.
type step struct {
	api.Step
	from, to, time, room int
}

// stepsOf returns the steps with room.
func stepsOf(n api.Net, f []int) []step {
	var out []step
	for i, a := range n.Arcs {
		if a.Cap > f[i] {
			out = append(out, step{api.Step{Arc: i}, a.From, a.To, a.Time, a.Cap - f[i]})
		}
		if f[i] > 0 {
			out = append(out, step{api.Step{Arc: i, Back: true}, a.To, a.From, 0 - a.Time, f[i]})
		}
	}
	return out
}

// timesAnew returns for each node the least time of a path with room from s, by
// going over all steps until nothing is changed. From s to the sink, one step more
// leads, which takes 1 longer than the horizon. To where no path leads it takes
// very long.
func timesAnew(n api.Net, s, sink int, f []int, span int) []int {
	times := slices.Repeat([]int{1 << 30}, n.Nodes)
	times[s] = 0
	steps := append(stepsOf(n, f), step{from: s, to: sink, time: span + 1})
	for range n.Nodes + 1 {
		for _, x := range steps {
			if times[x.from] != 1<<30 {
				times[x.to] = min(times[x.to], times[x.from]+x.time)
			}
		}
	}
	return times
}

// bound returns what no flow can be worth more than within a horizon, if that is by
// how much the numbers of s and the sink are apart, less 1: of what goes along an
// arc, each piece is worth no more than its numbers are further apart than its
// Time.
func bound(n api.Net, numbers []int) int {
	sum := 0
	for _, a := range n.Arcs {
		sum += a.Cap * max(0, numbers[a.To]-numbers[a.From]-a.Time)
	}
	return sum
}

// turned returns the network with the ends of its arcs exchanged.
func turned(n api.Net) api.Net {
	n.Arcs = slices.Clone(n.Arcs)
	for i, a := range n.Arcs {
		n.Arcs[i].From, n.Arcs[i].To = a.To, a.From
	}
	return n
}

// What fails unless a call answers as the chapter asks.

// isRefused fails unless the calls without a flow return the error and nothing
// else.
func isRefused(t *testing.T, n api.Net, s, sink, span int, want api.Errno) {
	t.Helper()
	if f, worth, err := Best(n, s, sink, span); len(f) != 0 || worth != 0 || err != want {
		t.Errorf("L3: %d nodes, %d arcs, from %d to %d within %d: %v %d %d, want %d", n.Nodes, len(n.Arcs), s, sink, span, f, worth, err, want)
	}
	if worth, err := Most(n, s, sink, span); worth != 0 || err != want {
		t.Errorf("L2: %d nodes, %d arcs, from %d to %d within %d: %d %d, want %d", n.Nodes, len(n.Arcs), s, sink, span, worth, err, want)
	}
}

// isWorthRefused fails unless Worth returns the error and 0.
func isWorthRefused(t *testing.T, n api.Net, s, sink int, f []int, span int, want api.Errno) {
	t.Helper()
	if worth, err := Worth(n, s, sink, f, span); worth != 0 || err != want {
		t.Errorf("L1: %d nodes, %d arcs, from %d to %d within %d, flow of %d: %d %d, want %d", n.Nodes, len(n.Arcs), s, sink, span, len(f), worth, err, want)
	}
}

// areRefused fails unless all calls return the error and nothing else.
func areRefused(t *testing.T, n api.Net, s, sink, span int, want api.Errno) {
	t.Helper()
	isRefused(t, n, s, sink, span, want)
	for _, f := range [][]int{nil, zero(n), full(n), {-1}, append(zero(n), most)} {
		isWorthRefused(t, n, s, sink, f, span, want)
	}
}

// isWorth fails unless that is the worth of the flow.
func isWorth(t *testing.T, n api.Net, s, sink int, f []int, span, want int) {
	t.Helper()
	if worth, err := Worth(n, s, sink, f, span); worth != want || err != api.OK {
		t.Errorf("L1: %v of %v from %d to %d within %d: %d %d, want %d", f, n, s, sink, span, worth, err, want)
	}
}

// testBest holds Best and Most against L2 to L4 for ends and a horizon that are
// right, and returns the flow and the worth.
func testBest(t *testing.T, n api.Net, s, sink, span int) ([]int, int) {
	t.Helper()
	f, worth, err := Best(n, s, sink, span)
	if err != api.OK {
		t.Fatalf("L3: Best in %v from %d to %d within %d: %d", n, s, sink, span, err)
	}
	if again, err := Most(n, s, sink, span); again != worth || err != api.OK {
		t.Fatalf("L2: Most in %v from %d to %d within %d: %d %d, want %d", n, s, sink, span, again, err, worth)
	}
	testFlow(t, n, s, sink, f)
	if want := worthAnew(n, sink, f, span); worth != want {
		t.Fatalf("L3: %v of %v from %d to %d within %d: %d, want %d", f, n, s, sink, span, worth, want)
	}
	isWorth(t, n, s, sink, f, span, worth)
	testFilled(t, n, s, sink, f, span)
	// The numbers of the nodes show that no flow is worth more.
	numbers := timesAnew(n, s, sink, f, span)
	if k := bound(n, numbers); k != worth || numbers[s] != 0 || numbers[sink] != span+1 {
		t.Fatalf("L4: %v of %v from %d to %d within %d: %d, but by %v it is up to %d", f, n, s, sink, span, worth, numbers, k)
	}
	return f, worth
}

// testFlow fails unless f is a flow from s to the sink.
func testFlow(t *testing.T, n api.Net, s, sink int, f []int) {
	t.Helper()
	if len(f) != len(n.Arcs) {
		t.Fatalf("L3: %d numbers for %d arcs", len(f), len(n.Arcs))
	}
	for i, a := range n.Arcs {
		if f[i] < 0 || f[i] > a.Cap {
			t.Fatalf("L3: %v of %v from %d to %d: arc %d", f, n, s, sink, i)
		}
	}
	if _, err := static.Check(n, s, sink, f); !isBalanced(n, s, sink, f) || err != api.OK {
		t.Fatalf("L3: %v of %v from %d to %d: %d, %v stays", f, n, s, sink, err, staysAnew(n, f))
	}
}

// testFilled fails if the flow has a negative cycle, or leaves a path to the sink
// within the horizon.
func testFilled(t *testing.T, n api.Net, s, sink int, f []int, span int) {
	t.Helper()
	if free, err := cost.Free(n, f); !free || err != api.OK {
		t.Fatalf("L3: %v of %v from %d to %d within %d has a negative cycle: %v %d", f, n, s, sink, span, free, err)
	}
	d, is, err := cost.Far(n, f, s)
	if err != api.OK || is[sink] && d[sink] <= span {
		t.Fatalf("L3: %v of %v from %d to %d within %d leaves a path: %v %v %d", f, n, s, sink, span, d, is, err)
	}
}

// isMost fails unless that is the greatest worth.
func isMost(t *testing.T, n api.Net, s, sink, span, want int) {
	t.Helper()
	if _, worth := testBest(t, n, s, sink, span); worth != want {
		t.Errorf("L2: %v from %d to %d within %d: %d, want %d", n, s, sink, span, worth, want)
	}
}

// isBest fails unless Best returns that flow with that worth. L3 allows no other
// one, if no path with room is left that takes 1 longer than the horizon and so is
// worth nothing.
func isBest(t *testing.T, n api.Net, s, sink, span, want int, best ...int) {
	t.Helper()
	if f, worth := testBest(t, n, s, sink, span); worth != want || !slices.Equal(f, best) {
		t.Errorf("L3: %v from %d to %d within %d: %v %d, want %v %d", n, s, sink, span, f, worth, best, want)
	}
}

// Networks and flows to hold the calls against.

// someArcs returns so many arcs from 0 to itself.
func someArcs(n int) []api.Arc {
	l := make([]api.Arc, n)
	for i := range l {
		l[i] = api.Arc{Cap: i, Time: 2 * i}
	}
	return l
}

// line returns a network whose arcs lead from each node to the one after it.
func line(nodes, width, time int) api.Net {
	n := api.Net{Nodes: nodes}
	for node := 1; node < nodes; node++ {
		n.Arcs = append(n.Arcs, arc(node-1, node, width, time))
	}
	return n
}

// ring returns a line with an arc from its last node to its first.
func ring(nodes, width, time int) api.Net {
	n := line(nodes, width, time)
	n.Arcs = append(n.Arcs, arc(nodes-1, 0, width, time))
	return n
}

// mixed returns a network of that many nodes and arcs of all kinds.
func mixed(next func(below int) int, nodes, arcs int) api.Net {
	widths := []int{0, 1, 2, 3, 7, 1000, twenty - 1, twenty}
	times := []int{0, 1, 2, 3, 7, 100, 511, 512, 1023, 1024, 1025, twenty - 1, twenty}
	n := api.Net{Nodes: nodes, Hold: next(2) == 0}
	for range arcs {
		n.Arcs = append(n.Arcs, arc(next(nodes), next(nodes), widths[next(len(widths))], times[next(len(times))]))
	}
	return n
}

// near returns a network whose arcs lead to nodes at most 3 further or 2 before,
// and have Times below the given one.
func near(next func(below int) int, nodes, arcs, width, time int) api.Net {
	n := api.Net{Nodes: nodes, Hold: next(2) == 0}
	for range arcs {
		from := next(nodes)
		to := max(0, min(from-2+next(6), nodes-1))
		n.Arcs = append(n.Arcs, arc(from, to, next(width+1), next(time)))
	}
	return n
}

// nets returns networks that are right, the smallest and the greatest among
// them.
func nets() []api.Net {
	out := []api.Net{
		{Nodes: 1}, {Nodes: 1, Hold: true, Arcs: []api.Arc{}}, {Nodes: 1, Arcs: someArcs(1)}, {Nodes: 1, Arcs: someArcs(200)},
		{Nodes: 2}, {Nodes: 50}, {Nodes: 50, Arcs: someArcs(200)}, line(50, 3, 0), line(50, twenty, 1), line(50, 7, 21), line(50, 1, twenty), line(2, 1, 1), ring(50, 2, 0), ring(50, 2, 7),
		{Nodes: 2, Arcs: []api.Arc{{To: 1, Cap: 7}, {To: 1, Cap: 2, Time: 5}, {To: 1, Cap: 2, Time: 5}, {To: 1}}},
		{Nodes: 2, Arcs: []api.Arc{{To: 1, Cap: 4, Time: 3}, {From: 1, Cap: 6, Time: 2}, {From: 1, To: 1, Cap: 1}}},
	}
	next := numbers(12)
	for nodes := 1; nodes <= 50; nodes += 1 + next(5) {
		out = append(out, mixed(next, nodes, nodes), mixed(next, nodes, next(201)), mixed(next, nodes, 200))
		for _, time := range []int{1, 2, 10, 40, 200} {
			out = append(out, near(next, nodes, 20+next(181), []int{2, 9, twenty}[next(3)], time))
		}
	}
	for nodes := 2; nodes <= 50; nodes += 12 {
		out = append(out, near(next, nodes, 200, 9, 5), near(next, nodes, 200, twenty, 20), mixed(next, nodes, 200))
	}
	return out
}

// zero returns the flow of zeros.
func zero(n api.Net) []int {
	return make([]int, len(n.Arcs))
}

// full returns the flow in which each arc has as much as its Cap.
func full(n api.Net) []int {
	f := zero(n)
	for i, a := range n.Arcs {
		f[i] = a.Cap
	}
	return f
}

// ends returns two nodes of a network that has two, more often the sink behind the
// source than before it.
func ends(next func(below int) int, n api.Net) (s, sink int) {
	s = next(n.Nodes)
	sink = (s + 1 + next(n.Nodes-1)) % n.Nodes
	if next(4) > 0 {
		return min(s, sink), max(s, sink)
	}
	return s, sink
}

// spans returns horizons that are right, the least and the greatest among them.
func spans(next func(below int) int) []int {
	return []int{0, 1, 2 + next(8), 10 + next(90), 100 + next(922), 1023, longest}
}

// around returns a way of steps with room from a node to another, or to itself, over
// nodes that have not been come to, any one.
func around(next func(below int) int, steps []step, node, goal int, been map[int]int) []step {
	been[node] = 1
	first := next(len(steps) + 1)
	for _, x := range slices.Concat(steps[first:], steps[:first]) {
		switch {
		case x.from != node:
		case x.to == goal:
			return []step{x}
		case been[x.to] == 0:
			if l := around(next, steps, x.to, goal, been); len(l) > 0 {
				return append([]step{x}, l...)
			}
		}
	}
	return nil
}

// anyFlow returns a flow from s to the sink, which may have a value below 0, and
// may go in cycles.
func anyFlow(next func(below int) int, n api.Net, s, sink int) []int {
	f := zero(n)
	for range next(9) {
		node := next(n.Nodes)
		from := [][2]int{{s, sink}, {s, sink}, {sink, s}, {node, node}}[next(4)]
		l := around(next, stepsOf(n, f), from[0], from[1], map[int]int{})
		if len(l) == 0 {
			continue
		}
		k := l[0].room
		for _, x := range l {
			k = min(k, x.room)
		}
		k = max(1, next(k+1))
		for _, x := range l {
			if x.Back {
				f[x.Arc] -= k
			} else {
				f[x.Arc] += k
			}
		}
	}
	return f
}

// noFlows returns lists that are no flows of a network with arcs.
func noFlows(n api.Net) [][]int {
	good, last := zero(n), len(n.Arcs)-1
	out := [][]int{nil, {}, good[:last], append(slices.Clone(good), 0), slices.Repeat(good, 2), make([]int, 1000)}
	for _, place := range []int{0, last / 2, last} {
		for _, k := range []int{-1, least, n.Arcs[place].Cap + 1, twenty + 1, 1 << 32, most} {
			f := slices.Clone(good)
			f[place] = k
			out = append(out, f)
		}
	}
	return out
}

// numbersAround returns numbers that may be nodes, and ones that are none.
func numbersAround(nodes int) []int {
	return []int{0, nodes - 1, nodes / 2, -1, nodes, nodes + 1, -nodes, 50, 51, 1 << 32, -1 << 32, most, least}
}

// wrongSpans returns horizons that may not be, and the errors that they have.
func wrongSpans() map[int]api.Errno {
	return map[int]api.Errno{
		-1: api.ErrArg, -2: api.ErrArg, -1024: api.ErrArg, -1025: api.ErrArg, -1 << 32: api.ErrArg, least + 1: api.ErrArg, least: api.ErrArg,
		1025: api.ErrLimit, 1026: api.ErrLimit, 2048: api.ErrLimit, 1 << 32: api.ErrLimit, most - 1: api.ErrLimit, most: api.ErrLimit,
	}
}

// products calls do with each list that has so many of the items.
func products[T any](items []T, length int, do func(l []T)) {
	l := make([]T, length)
	var fill func(place int)
	fill = func(place int) {
		if place == length {
			do(l)
			return
		}
		for _, x := range items {
			l[place] = x
			fill(place + 1)
		}
	}
	fill(0)
}

// L2 and L3 for many networks.

func TestManyNets(t *testing.T) {
	next := numbers(121)
	positive, none := 0, 0
	for _, n := range nets() {
		if n.Nodes < 2 {
			continue
		}
		for _, span := range spans(next) {
			s, sink := ends(next, n)
			for _, e := range [][2]int{{s, sink}, {0, n.Nodes - 1}} {
				if _, worth := testBest(t, n, e[0], e[1], span); worth > 0 {
					positive++
				} else {
					none++
				}
			}
		}
	}
	if positive < 600 || none < 600 {
		t.Errorf("only %d worths above 0 and %d of 0", positive, none)
	}
}

// testAllFlows holds the greatest worth within all horizons up to the given one
// against all flows.
func testAllFlows(t *testing.T, n api.Net, s, sink, span int) {
	t.Helper()
	for at, want := range mostOfAllFlows(n, s, sink, span) {
		isMost(t, n, s, sink, at, want)
	}
}

func TestAllSmallNets(t *testing.T) {
	var arcs []api.Arc
	for place := range 9 {
		for _, time := range []int{0, 1, 3} {
			arcs = append(arcs, arc(place%3, place/3, 1, time))
		}
	}
	for length := range 4 {
		products(arcs, length, func(l []api.Arc) {
			n := api.Net{Nodes: 3, Arcs: slices.Clone(l)}
			for i := range l {
				n.Arcs[i].Cap += i % 2
			}
			testAllFlows(t, n, 0, 2, 4)
		})
	}
}

func TestManyMiddlingNets(t *testing.T) {
	next := numbers(122)
	positive := 0
	for range 1500 {
		n := near(next, 2+next(4), 3+next(6), 2, 1+next(5))
		s, sink := ends(next, n)
		testAllFlows(t, n, s, sink, 9)
		testAllFlows(t, n, 0, n.Nodes-1, 9)
		if worth, _ := Most(n, 0, n.Nodes-1, 9); worth > 0 {
			positive++
		}
	}
	if positive < 400 {
		t.Errorf("only %d worths above 0", positive)
	}
}

func TestAsMuchCanArrive(t *testing.T) {
	// What moves through copies of the nodes comes to the greatest worth, whether
	// nodes keep what arrives or not.
	next := numbers(123)
	positive := 0
	for range 600 {
		n := near(next, 2+next(9), 5+next(30), 1+next(9), 1+next(6))
		for _, span := range []int{0, 1 + next(4), 5 + next(9)} {
			for _, n.Hold = range []bool{false, true} {
				want := arrivesInCopies(n, 0, n.Nodes-1, span)
				isMost(t, n, 0, n.Nodes-1, span, want)
				if want > 0 {
					positive++
				}
			}
		}
	}
	if positive < 500 {
		t.Errorf("only %d worths above 0", positive)
	}
}

// Where a step back is needed.

func TestStepBackIsNeeded(t *testing.T) {
	// The fastest path, 0-1-2-3, takes what both of the others need.
	n := api.Net{Nodes: 4, Arcs: []api.Arc{arc(0, 1, 1, 1), arc(1, 2, 1, 1), arc(2, 3, 1, 1), arc(0, 2, 1, 4), arc(1, 3, 1, 5)}}
	// Alone it takes 3; the others, in its stead, take 5 and 6: together 8 more.
	for span, want := range []int{0, 0, 0, 1, 2, 3, 4, 5, 7, 9, 11, 13} {
		isMost(t, n, 0, 3, span, want)
	}
	isBest(t, n, 0, 3, 6, 4, 1, 1, 1, 0, 0)
	isBest(t, n, 0, 3, 8, 7, 1, 0, 1, 1, 1)
	isBest(t, n, 0, 3, longest, 2*1025-11, 1, 0, 1, 1, 1)
	slices.Reverse(n.Arcs)
	isBest(t, n, 0, 3, 6, 4, 0, 0, 1, 1, 1)
	isBest(t, n, 0, 3, longest, 2*1025-11, 1, 1, 1, 0, 1)
	// With more of each, only a part is pushed back.
	for i := range n.Arcs {
		n.Arcs[i].Cap = 5
	}
	n.Arcs[0].Cap, n.Arcs[1].Cap = 2, 3
	isBest(t, n, 0, 3, 6, 20, 0, 0, 5, 5, 5)
	isMost(t, n, 0, 3, 7, 25)
	isBest(t, n, 0, 3, longest, 7*1025-5*3-2*8, 2, 2, 5, 3, 5)
}

func TestStepsBackOneAfterTheOther(t *testing.T) {
	// The fastest path is a long line; the second one pushes all but its ends back.
	for nodes := 4; nodes <= 50; nodes++ {
		n, last := line(nodes, 1, 1), nodes-1
		n.Arcs = append(n.Arcs, arc(0, last-1, 1, nodes), arc(1, last, 1, nodes))
		isMost(t, n, 0, last, last-1, 0)
		isMost(t, n, 0, last, last, 1)
		// Both of the others take nodes+1, so that the second path takes this long.
		second := 2*(nodes+1) - last
		isMost(t, n, 0, last, second-1, second-last)
		isMost(t, n, 0, last, second, second+1-last+1)
		f, _ := testBest(t, n, 0, last, second)
		want := append(append([]int{1}, make([]int, nodes-3)...), 1, 1, 1)
		if !slices.Equal(f, want) {
			t.Errorf("L3: %v from %d to %d within %d: %v, want %v", n, 0, last, second, f, want)
		}
	}
}

// nested returns a network, its ends, and how long its paths take, each of which
// has room for 1: each time it is put between two new nodes, it is gone through
// twice as often, forth in the order in which it was and then back.
func nested(deep int) (n api.Net, s, sink int, times []int) {
	n, s, sink, times = api.Net{Nodes: 2, Arcs: []api.Arc{arc(0, 1, 1, 0)}}, 0, 1, []int{0}
	for range deep {
		many, longer := len(times), times[len(times)-1]+1
		begin, end := n.Nodes, n.Nodes+1
		n.Nodes += 2
		n.Arcs = append(n.Arcs, arc(begin, s, many, 0), arc(sink, end, many, 0), arc(begin, sink, many, longer), arc(s, end, many, longer))
		for i := many - 1; i >= 0; i-- {
			times = append(times, 2*longer-times[i])
		}
		s, sink = begin, end
	}
	return n, s, sink, times
}

func TestStepsBackAgainAndAgain(t *testing.T) {
	for deep := range 10 {
		n, s, sink, times := nested(deep)
		for _, span := range []int{0, 1, 6, 7, 333, 1021, 1022, longest} {
			want := 0
			for _, time := range times {
				want += max(0, span+1-time)
			}
			isMost(t, n, s, sink, span, want)
			slices.Reverse(n.Arcs)
			isMost(t, n, s, sink, span, want)
			isMost(t, turned(n), sink, s, span, want)
		}
	}
	if _, _, _, times := nested(9); len(times) != 512 || times[511] != 1022 {
		t.Errorf("%d times up to %d", len(times), times[len(times)-1])
	}
}

func TestWideAndNarrowPathsOfTheSameTime(t *testing.T) {
	// Paths over the bridge, forth and back in turn, would take 2^21 of them.
	for _, time := range []int{0, 1, 100} {
		n := api.Net{Nodes: 4, Arcs: []api.Arc{arc(1, 2, 1, 0), arc(0, 1, twenty, time), arc(0, 2, twenty, time), arc(1, 3, twenty, time), arc(2, 3, twenty, time)}}
		isMost(t, n, 0, 3, 2*time, 2*twenty)
		isMost(t, n, 0, 3, longest, 2*twenty*(1025-2*time))
		n.Arcs[0].From, n.Arcs[0].To = n.Arcs[0].To, n.Arcs[0].From
		isMost(t, n, 0, 3, longest, 2*twenty*(1025-2*time))
	}
	star := api.Net{Nodes: 50}
	for node := 1; node < 49; node++ {
		star.Arcs = append(star.Arcs, arc(0, node, node, 3), arc(node, 49, 49-node, 4))
	}
	isMost(t, star, 0, 49, 6, 0)
	isMost(t, star, 0, 49, 7, 24*25)
	isMost(t, star, 0, 49, 9, 3*24*25)
}

// Ways: each time is filled once, and the times of paths rise.

func TestTimesOfPathsRise(t *testing.T) {
	next := numbers(124)
	filled := 0
	for _, n := range nets() {
		if n.Nodes < 2 {
			continue
		}
		s, sink := ends(next, n)
		in, last := empty(n, s, sink), -1
		for in.hasten(longest) {
			d, is, err := cost.Far(n, in.flow, s)
			if !is[sink] || d[sink] <= last || err != api.OK {
				t.Fatalf("Ways: %v from %d to %d: %v %v %d after %d", n, s, sink, d, is, err, last)
			}
			last = d[sink]
			for path, ok := in.path(); ok; path, ok = in.path() {
				time := 0
				for _, x := range path {
					if a := n.Arcs[x.Arc]; x.Back {
						time -= a.Time
					} else {
						time += a.Time
					}
				}
				if time != last {
					t.Fatalf("Ways: %v of %v from %d to %d takes %d, want %d", path, n, s, sink, time, last)
				}
				in.fill(path)
				filled++
			}
		}
		want, _ := Most(n, s, sink, longest)
		isWorth(t, n, s, sink, in.flow, longest, want)
	}
	if filled < 600 {
		t.Errorf("only %d paths", filled)
	}
}

// L1.

func TestWorthOfManyFlows(t *testing.T) {
	next := numbers(125)
	positive, negative, none := 0, 0, 0
	for _, n := range nets() {
		if n.Nodes < 2 {
			continue
		}
		for _, span := range spans(next) {
			s, sink := ends(next, n)
			f := anyFlow(next, n, s, sink)
			want := worthAnew(n, sink, f, span)
			isWorth(t, n, s, sink, f, span, want)
			value, _ := static.Check(n, s, sink, f)
			spent, _ := static.Cost(n, f)
			if want != value*(span+1)-spent {
				t.Fatalf("L1: %v of %v from %d to %d within %d: %d, but the value is %d and the cost %d", f, n, s, sink, span, want, value, spent)
			}
			if k, err := Most(n, s, sink, span); k < want || err != api.OK {
				t.Fatalf("L4: %v of %v from %d to %d within %d: %d, but the most is %d %d", f, n, s, sink, span, want, k, err)
			}
			switch {
			case want > 0:
				positive++
			case want < 0:
				negative++
			default:
				none++
			}
		}
	}
	if positive < 100 || negative < 400 || none < 200 {
		t.Errorf("only %d worths above 0, %d below and %d of 0", positive, negative, none)
	}
}

func TestWorthOfAllSmallFlows(t *testing.T) {
	next := numbers(126)
	balanced, others := 0, 0
	for range 300 {
		n := near(next, 2+next(3), 1+next(5), 2, 1+next(5))
		s, sink := ends(next, n)
		allFlows(n, func(f []int) {
			span := next(9)
			if isBalanced(n, s, sink, f) {
				isWorth(t, n, s, sink, f, span, worthAnew(n, sink, f, span))
				balanced++
				return
			}
			isWorthRefused(t, n, s, sink, f, span, api.ErrFlow)
			others++
		})
	}
	if balanced < 1000 || others < 1000 {
		t.Errorf("only %d balanced flows and %d others", balanced, others)
	}
}

func TestTheZeroFlowIsWorthNothing(t *testing.T) {
	next := numbers(127)
	for _, n := range nets() {
		if n.Nodes < 2 {
			continue
		}
		for _, span := range spans(next) {
			s, sink := ends(next, n)
			isWorth(t, n, s, sink, zero(n), span, 0)
			isWorth(t, n, 0, n.Nodes-1, zero(n), span, 0)
			if worth, err := Most(n, s, sink, span); worth < 0 || err != api.OK {
				t.Errorf("L2: %v from %d to %d within %d: %d %d", n, s, sink, span, worth, err)
			}
		}
	}
}

func TestValueBelowZero(t *testing.T) {
	n := line(3, 5, 2)
	for k := range 6 {
		for _, span := range []int{0, 1, 3, 4, longest} {
			isWorth(t, n, 0, 2, []int{k, k}, span, k*(span+1-4))
			// From the other end, the same flow has a value below 0.
			isWorth(t, n, 2, 0, []int{k, k}, span, -k*(span+1+4))
		}
	}
	for _, span := range []int{0, 1, longest} {
		isMost(t, n, 2, 0, span, 0)
	}
	// Forth and back: the value is 1, 0 and -1.
	both := api.Net{Nodes: 2, Arcs: []api.Arc{arc(0, 1, 3, 10), arc(1, 0, 3, 1)}}
	isWorth(t, both, 0, 1, []int{3, 2}, 99, 100-32)
	isWorth(t, both, 0, 1, []int{2, 2}, 99, -22)
	isWorth(t, both, 0, 1, []int{2, 3}, 99, -100-23)
	isWorth(t, both, 1, 0, []int{2, 3}, 99, 100-23)
	isWorth(t, line(2, twenty, twenty), 1, 0, []int{twenty}, longest, -twenty*(1025+twenty))
}

func TestWorthBelowZero(t *testing.T) {
	for _, time := range []int{1, 7, 1024, 1025, twenty} {
		n := line(2, 4, time)
		for _, span := range []int{0, 1, 6, 7, 1023, longest} {
			for k := range 5 {
				isWorth(t, n, 0, 1, []int{k}, span, k*(span+1-time))
			}
			isMost(t, n, 0, 1, span, 4*max(0, span+1-time))
		}
	}
	// The least worth: 200 arcs the wrong way, each for as long as may be.
	n := api.Net{Nodes: 2, Arcs: slices.Repeat([]api.Arc{arc(1, 0, twenty, twenty)}, 200)}
	isWorth(t, n, 0, 1, full(n), longest, -200*twenty*(1025+twenty))
	isMost(t, n, 0, 1, longest, 0)
	isMost(t, n, 1, 0, longest, 0)
}

func TestCyclesCost(t *testing.T) {
	// 1-2-1 and 3-3 are of no use, and take time.
	n := api.Net{Nodes: 4, Arcs: []api.Arc{arc(0, 1, 3, 1), arc(1, 2, 2, 4), arc(2, 1, 2, 3), arc(1, 3, 3, 2), arc(3, 3, 5, 6), arc(2, 2, 5, 0)}}
	isWorth(t, n, 0, 3, []int{3, 0, 0, 3, 0, 0}, 9, 21)
	isWorth(t, n, 0, 3, []int{3, 2, 2, 3, 0, 0}, 9, 7)
	isWorth(t, n, 0, 3, []int{3, 2, 2, 3, 1, 5}, 9, 1)
	isWorth(t, n, 0, 3, []int{3, 2, 2, 3, 5, 5}, 9, -23)
	isWorth(t, n, 0, 3, []int{0, 1, 1, 0, 0, 0}, 9, -7)
	f, worth := testBest(t, n, 0, 3, 9)
	if f[5] = 0; worth != 21 || !slices.Equal(f, []int{3, 0, 0, 3, 0, 0}) {
		t.Errorf("L3: %v %d", f, worth)
	}
}

// L4.

// testGrowth holds the greatest worths within the horizons of a range against L4,
// and returns how often they grow by more than before, and how often by as much.
func testGrowth(t *testing.T, n api.Net, s, sink, from, to int) (more, same int) {
	t.Helper()
	value, err := maxflow.Most(n, s, sink)
	if err != api.OK {
		t.Fatalf("I1: %v from %d to %d: %d", n, s, sink, err)
	}
	last, err := Most(n, s, sink, from)
	if last < 0 || err != api.OK {
		t.Fatalf("L4: %v from %d to %d within %d: %d %d", n, s, sink, from, last, err)
	}
	grown := 0
	for span := from + 1; span <= to; span++ {
		worth, err := Most(n, s, sink, span)
		by := worth - last
		if by < grown || by > value || err != api.OK {
			t.Fatalf("L4: %v from %d to %d within %d: %d %d, after %d and by %d more before, the greatest value is %d", n, s, sink, span, worth, err, last, grown, value)
		}
		if by > grown {
			more++
		} else {
			same++
		}
		last, grown = worth, by
	}
	return more, same
}

func TestHorizonGreaterByOne(t *testing.T) {
	next := numbers(128)
	rising, even := 0, 0
	test := func(n api.Net, s, sink, from, to int) {
		more, same := testGrowth(t, n, s, sink, from, to)
		rising, even = rising+more, even+same
	}
	for i, n := range nets() {
		if n.Nodes < 2 {
			continue
		}
		s, sink := ends(next, n)
		test(n, s, sink, 0, 12)
		from := 13 + next(1005)
		test(n, 0, n.Nodes-1, from, from+2)
		if i%3 == 0 {
			test(n, s, sink, longest-3, longest)
		}
		if i%40 == 0 {
			test(near(next, 6, 30, 9, 100), 0, 5, 0, longest)
		}
	}
	n, s, sink, _ := nested(7)
	test(n, s, sink, 0, 300)
	if rising < 400 || even < 2500 {
		t.Errorf("only %d times more than before, and %d times as much", rising, even)
	}
}

func TestGrowsByTheGreatestValueInTheEnd(t *testing.T) {
	next := numbers(129)
	positive := 0
	for range 300 {
		nodes := 2 + next(12)
		n := near(next, nodes, 3*nodes, 9, 5)
		value, _ := maxflow.Most(n, 0, nodes-1)
		// All paths take less than 2 * nodes * 5, steps back among them.
		first, _ := Most(n, 0, nodes-1, 10*nodes)
		for _, span := range []int{10*nodes + 1, 500, 1023, longest} {
			isMost(t, n, 0, nodes-1, span, first+value*(span-10*nodes))
		}
		if value > 0 {
			positive++
		}
	}
	if positive < 150 {
		t.Errorf("only %d values above 0", positive)
	}
	for nodes := 2; nodes <= 50; nodes++ {
		n := line(nodes, 6, 2)
		for _, span := range []int{0, 2*nodes - 3, 2*nodes - 2, 2*nodes - 1, 2 * nodes, 1000, longest} {
			isMost(t, n, 0, nodes-1, span, 6*max(0, span+1-2*(nodes-1)))
		}
	}
}

func TestArcsThatTakeLonger(t *testing.T) {
	next := numbers(130)
	different := 0
	for _, n := range nets() {
		if n.Nodes < 2 {
			continue
		}
		for _, span := range spans(next)[next(4):][:3] {
			s, sink := ends(next, n)
			want, err := Most(n, s, sink, span)
			if err != api.OK {
				t.Fatalf("L2: %v from %d to %d within %d: %d", n, s, sink, span, err)
			}
			short := n
			short.Arcs = slices.DeleteFunc(slices.Clone(n.Arcs), func(a api.Arc) bool { return a.Time > span })
			isMost(t, short, s, sink, span, want)
			more := short
			for len(more.Arcs) < 200 && next(20) > 0 {
				more.Arcs = append(slices.Clone(more.Arcs), arc(next(n.Nodes), next(n.Nodes), 1+next(twenty), span+1+next(9)))
			}
			if len(short.Arcs) < 200 {
				more.Arcs = append(more.Arcs[:min(len(more.Arcs), 199)], arc(s, sink, twenty, span+1))
				isMost(t, more, s, sink, span, want)
				// Within the horizon, the last of them makes a difference.
				more.Arcs[len(more.Arcs)-1].Time = span
				isMost(t, more, s, sink, span, want+twenty)
				different++
			}
		}
	}
	if different < 400 {
		t.Errorf("only %d networks", different)
	}
}

func TestAllTimesZero(t *testing.T) {
	next := numbers(131)
	positive := 0
	for _, n := range nets() {
		if n.Nodes < 2 {
			continue
		}
		n.Arcs = slices.Clone(n.Arcs)
		for i := range n.Arcs {
			n.Arcs[i].Time = 0
		}
		for _, span := range []int{0, 1, 2 + next(1022), longest} {
			s, sink := ends(next, n)
			value, err := maxflow.Most(n, s, sink)
			if err != api.OK {
				t.Fatalf("I1: %v from %d to %d: %d", n, s, sink, err)
			}
			isMost(t, n, s, sink, span, value*(span+1))
			if value > 0 {
				positive++
			}
		}
	}
	if positive < 300 {
		t.Errorf("only %d values above 0", positive)
	}
}

func TestTurnedNets(t *testing.T) {
	next := numbers(132)
	for _, n := range nets() {
		if n.Nodes < 2 {
			continue
		}
		for _, span := range spans(next)[2:5] {
			s, sink := ends(next, n)
			want, _ := Most(n, s, sink, span)
			isMost(t, turned(n), sink, s, span, want)
		}
	}
}

// Errors.

func TestErrorsOfCheckComeFirst(t *testing.T) {
	right := api.Arc{To: 1, Cap: 3, Time: 4}
	wrong := api.Arc{From: 2, To: 1}
	great := api.Arc{To: 1, Time: twenty + 1}
	for _, c := range []struct {
		nodes int
		arcs  []api.Arc
		want  api.Errno
	}{
		{0, nil, api.ErrNet}, {-1, nil, api.ErrNet}, {least, nil, api.ErrNet}, {0, []api.Arc{great}, api.ErrNet}, {0, someArcs(201), api.ErrNet},
		{51, nil, api.ErrLimit}, {most, nil, api.ErrLimit}, {51, []api.Arc{wrong}, api.ErrLimit},
		{1, someArcs(201), api.ErrLimit}, {50, someArcs(5000), api.ErrLimit}, {2, append([]api.Arc{wrong}, someArcs(200)...), api.ErrLimit},
		{2, []api.Arc{{From: -1}}, api.ErrNet}, {2, []api.Arc{{From: 2}}, api.ErrNet}, {2, []api.Arc{{From: least}}, api.ErrNet},
		{2, []api.Arc{{To: -1}}, api.ErrNet}, {2, []api.Arc{{To: 2}}, api.ErrNet}, {2, []api.Arc{{To: most}}, api.ErrNet},
		{2, []api.Arc{{Cap: -1}}, api.ErrNet}, {2, []api.Arc{{Time: -1}}, api.ErrNet}, {2, []api.Arc{{To: 1, Time: least}}, api.ErrNet},
		{2, []api.Arc{{Cap: twenty + 1}}, api.ErrLimit}, {2, []api.Arc{{Time: twenty + 1}}, api.ErrLimit}, {2, []api.Arc{{To: 1, Cap: most}}, api.ErrLimit},
		{2, []api.Arc{right, wrong, great}, api.ErrNet}, {2, []api.Arc{right, great, wrong}, api.ErrLimit},
		{2, append(someArcs(199), wrong), api.ErrNet}, {2, append(someArcs(199), great), api.ErrLimit},
	} {
		n := api.Net{Nodes: c.nodes, Arcs: c.arcs}
		for _, s := range numbersAround(c.nodes) {
			for _, sink := range []int{0, 1, c.nodes - 1, c.nodes, -1, most, s} {
				for _, span := range []int{0, 5, longest, -1, longest + 1, most, least} {
					areRefused(t, n, s, sink, span, c.want)
				}
			}
		}
	}
}

func TestEnds(t *testing.T) {
	good, bad := 0, 0
	for _, n := range []api.Net{{Nodes: 2}, line(2, 3, 1), {Nodes: 3, Arcs: someArcs(200)}, ring(7, 2, 2), line(49, 3, 1), line(50, twenty, 0), {Nodes: 50, Arcs: someArcs(200)}} {
		for _, s := range numbersAround(n.Nodes) {
			for _, sink := range append(numbersAround(n.Nodes), s) {
				if s >= 0 && s < n.Nodes && sink >= 0 && sink < n.Nodes && s != sink {
					testBest(t, n, s, sink, 20)
					isWorth(t, n, s, sink, zero(n), 20, 0)
					good++
					continue
				}
				// ErrEnds comes ahead of what is wrong with the horizon.
				for _, span := range []int{0, 20, longest, -1, longest + 1, most, least} {
					areRefused(t, n, s, sink, span, api.ErrEnds)
				}
				bad++
			}
		}
	}
	if good < 30 || bad < 500 {
		t.Errorf("only %d ends that are right, and %d others", good, bad)
	}
	for nodes := 1; nodes <= 50; nodes++ {
		n := line(nodes, 1, 1)
		for s := -2; s <= nodes+1; s++ {
			areRefused(t, n, s, s, 9, api.ErrEnds)
			areRefused(t, n, s, -1, 9, api.ErrEnds)
			areRefused(t, n, nodes, s, 9, api.ErrEnds)
		}
	}
}

func TestHorizonsThatMayNotBe(t *testing.T) {
	for _, n := range []api.Net{{Nodes: 2}, line(2, 3, 1), ring(7, 2, 2), line(50, twenty, 0), {Nodes: 50, Arcs: someArcs(200)}} {
		for span, want := range wrongSpans() {
			areRefused(t, n, 0, n.Nodes-1, span, want)
			areRefused(t, n, 1, 0, span, want)
		}
	}
}

func TestHorizonsAtTheEdges(t *testing.T) {
	n := line(2, 3, 0)
	isBest(t, n, 0, 1, 0, 3, 3)
	isBest(t, n, 0, 1, 1, 6, 3)
	isBest(t, n, 0, 1, 1023, 3*1024, 3)
	isBest(t, n, 0, 1, longest, 3*1025, 3)
	isWorth(t, n, 0, 1, []int{2}, 0, 2)
	isWorth(t, n, 0, 1, []int{2}, longest, 2*1025)
	for _, time := range []int{1, 2, 100, 1023, 1024} {
		n.Arcs[0].Time = time
		isMost(t, n, 0, 1, 0, 0)
		isMost(t, n, 0, 1, time-1, 0)
		if time > 1 {
			isBest(t, n, 0, 1, time-2, 0, 0)
		}
		isBest(t, n, 0, 1, time, 3, 3)
		isBest(t, n, 0, 1, longest, 3*(1025-time), 3)
		isWorth(t, n, 0, 1, []int{3}, time-1, 0)
	}
	n.Arcs[0].Time = 1026
	isBest(t, n, 0, 1, longest, 0, 0)
}

func TestWhatIsNoFlow(t *testing.T) {
	for _, n := range []api.Net{
		line(2, 0, 5), line(2, 5, 0), line(50, twenty, 3), ring(3, 4, 4), {Nodes: 2, Arcs: someArcs(200)},
		{Nodes: 3, Arcs: []api.Arc{arc(0, 1, 2, 1), {From: 1, To: 2, Time: 3}, arc(2, 2, 7, 0)}},
	} {
		for _, f := range noFlows(n) {
			for _, span := range []int{0, 1, 500, longest} {
				isWorthRefused(t, n, 0, n.Nodes-1, f, span, api.ErrFlow)
				isWorthRefused(t, n, n.Nodes-1, 0, f, span, api.ErrFlow)
			}
			// ErrFlow comes behind what is wrong with the ends and the horizon.
			for span, want := range wrongSpans() {
				isWorthRefused(t, n, 0, n.Nodes-1, f, span, want)
			}
			isWorthRefused(t, n, 0, 0, f, 5, api.ErrEnds)
			isWorthRefused(t, n, -1, 1, f, -1, api.ErrEnds)
		}
	}
	for _, nodes := range []int{2, 50} {
		n := api.Net{Nodes: nodes}
		isWorthRefused(t, n, 0, 1, []int{0}, 5, api.ErrFlow)
		isWorthRefused(t, n, 0, 1, []int{0}, 1025, api.ErrLimit)
		isWorth(t, n, 0, 1, nil, 5, 0)
		isWorth(t, n, 0, 1, []int{}, 5, 0)
	}
}

func TestFlowsThatAreNotBalanced(t *testing.T) {
	n := line(4, 5, 1)
	for _, f := range [][]int{{2, 1, 1}, {1, 2, 2}, {1, 1, 0}, {0, 0, 1}, {0, 3, 0}, {5, 4, 5}} {
		for _, span := range []int{0, 9, longest} {
			isWorthRefused(t, n, 0, 3, f, span, api.ErrFlow)
			isWorthRefused(t, n, 3, 0, f, span, api.ErrFlow)
		}
		isWorthRefused(t, n, 0, 3, f, -1, api.ErrArg)
		isWorthRefused(t, n, 0, 3, f, 1025, api.ErrLimit)
		isWorthRefused(t, n, 0, 4, f, 1025, api.ErrEnds)
	}
	// Between other ends, some of them are balanced.
	isWorth(t, n, 1, 2, []int{0, 3, 0}, 9, 27)
	isWorth(t, n, 2, 3, []int{0, 0, 1}, 9, 9)
	isWorth(t, n, 0, 2, []int{1, 1, 0}, 9, 8)
	isWorth(t, n, 2, 0, []int{1, 1, 0}, 9, -12)
	for _, node := range []int{1, 24, 48} {
		n := line(50, 2, 1)
		f := slices.Repeat([]int{1}, 49)
		isWorth(t, n, 0, 49, f, 49, 1)
		f[node] = 2
		isWorthRefused(t, n, 0, 49, f, 49, api.ErrFlow)
		n.Arcs = append(n.Arcs, arc(node, (node+1)%50, 1, 0), arc((node+1)%50, node, 1, 7))
		isWorth(t, n, 0, 49, append(f, 0, 1), 49, 1-8)
		isWorthRefused(t, n, 0, 49, append(f, 1, 0), 49, api.ErrFlow)
	}
}

// Edges.

func TestOneNode(t *testing.T) {
	for _, n := range []api.Net{{Nodes: 1}, {Nodes: 1, Arcs: []api.Arc{}}, {Nodes: 1, Arcs: someArcs(200)}} {
		for _, s := range []int{0, 1, -1, most, least} {
			for _, span := range []int{0, longest, -1, 1025} {
				areRefused(t, n, s, 0, span, api.ErrEnds)
				areRefused(t, n, 0, s, span, api.ErrEnds)
				areRefused(t, n, s, s, span, api.ErrEnds)
			}
		}
	}
}

func TestTwoNodes(t *testing.T) {
	n := api.Net{Nodes: 2, Arcs: []api.Arc{arc(0, 1, 2, 3), arc(1, 0, 4, 5)}}
	for span := range 20 {
		isMost(t, n, 0, 1, span, 2*max(0, span+1-3))
		isMost(t, n, 1, 0, span, 4*max(0, span+1-5))
	}
	isBest(t, n, 0, 1, 3, 2, 2, 0)
	isBest(t, n, 1, 0, 9, 20, 0, 4)
}

func TestNoArc(t *testing.T) {
	for _, nodes := range []int{2, 3, 50} {
		for _, arcs := range [][]api.Arc{nil, {}} {
			n := api.Net{Nodes: nodes, Arcs: arcs}
			for _, span := range []int{0, 1, longest} {
				isBest(t, n, 0, nodes-1, span, 0)
				isBest(t, n, nodes-1, 0, span, 0)
				isWorth(t, n, 0, nodes-1, nil, span, 0)
			}
		}
	}
}

func TestTwoHundredArcs(t *testing.T) {
	// Of each Time from 0 to 199 one.
	n, want := api.Net{Nodes: 2}, 0
	for i := range 200 {
		n.Arcs = append(n.Arcs, arc(0, 1, 1+i%3, i*7%200))
	}
	for _, span := range []int{0, 1, 5, 100, 198, 199, 200, longest} {
		f := zero(n)
		want = 0
		for i, a := range n.Arcs {
			if a.Time <= span {
				f[i] = a.Cap
				want += a.Cap * (span + 1 - a.Time)
			}
		}
		isMost(t, n, 0, 1, span, want)
		if span >= 199 {
			isBest(t, n, 0, 1, span, want, f...)
		}
		isMost(t, n, 1, 0, span, 0)
	}
	// Two rows of 100 between three nodes: the fastest of the one with the fastest of
	// the other.
	two := api.Net{Nodes: 3}
	for i := range 100 {
		two.Arcs = append(two.Arcs, arc(0, 1, 1, i), arc(1, 2, 1, 2*i))
	}
	for _, span := range []int{0, 1, 2, 3, 150, 297, longest} {
		want = 0
		for i := range 100 {
			want += max(0, span+1-3*i)
		}
		isMost(t, two, 0, 2, span, want)
	}
}

func TestFiftyNodes(t *testing.T) {
	n := line(50, 4, 20)
	isMost(t, n, 0, 49, 979, 0)
	isBest(t, n, 0, 49, 980, 4, slices.Repeat([]int{4}, 49)...)
	isMost(t, n, 0, 49, longest, 4*45)
	isMost(t, n, 49, 0, longest, 0)
	isMost(t, n, 48, 49, longest, 4*1005)
	slices.Reverse(n.Arcs)
	isMost(t, n, 0, 49, longest, 4*45)
	r := ring(50, 4, 20)
	isMost(t, r, 49, 48, longest, 4*45)
	isMost(t, r, 49, 0, longest, 4*1005)
}

func TestArcsFromANodeToItself(t *testing.T) {
	n := api.Net{Nodes: 3, Arcs: []api.Arc{arc(0, 0, 9, 3), arc(0, 1, 5, 2), arc(1, 1, 9, 1), arc(2, 2, 9, twenty), arc(1, 2, 4, 3), arc(0, 0, twenty, 0), arc(2, 2, 1, 0), arc(1, 1, 7, 0)}}
	for span := range 10 {
		f, worth := testBest(t, n, 0, 2, span)
		if worth != 4*max(0, span+1-5) || f[0] != 0 || f[2] != 0 || f[3] != 0 {
			t.Errorf("L3: within %d: %v %d", span, f, worth)
		}
		isMost(t, n, 2, 0, span, 0)
	}
	isWorth(t, n, 0, 2, []int{0, 4, 0, 0, 4, 7, 1, 3}, 9, 20)
	isWorth(t, n, 0, 2, []int{2, 4, 3, 0, 4, 7, 1, 3}, 9, 20-6-3)
	isWorth(t, n, 0, 2, []int{0, 0, 0, 9, 0, 0, 0, 0}, 9, -9*twenty)
	for _, node := range []int{0, 1, 49} {
		for _, time := range []int{0, 1, 5, twenty} {
			loops := api.Net{Nodes: 50, Arcs: slices.Repeat([]api.Arc{arc(node, node, twenty, time)}, 199)}
			loops.Arcs = append(loops.Arcs, arc(0, 49, 6, 3))
			isMost(t, loops, 0, 49, 2, 0)
			isMost(t, loops, 0, 49, 3, 6)
			isMost(t, loops, 49, 0, longest, 0)
			isWorth(t, loops, 0, 49, full(loops), longest, 6*1022-199*twenty*time)
		}
	}
}

func TestSeveralArcsBetweenTheSameNodes(t *testing.T) {
	n := api.Net{Nodes: 2, Arcs: []api.Arc{arc(0, 1, 3, 6), arc(0, 1, 2, 4), arc(1, 0, 5, 3), arc(0, 1, 0, 0), arc(0, 1, 2, 4), arc(1, 0, 1, 0), arc(0, 1, 1, 5)}}
	for span, want := range []int{0, 0, 0, 0, 4, 9, 17, 25} {
		isMost(t, n, 0, 1, span, want)
	}
	for span, want := range []int{1, 2, 3, 9, 15} {
		isMost(t, n, 1, 0, span, want)
	}
	isBest(t, n, 0, 1, 2, 0, 0, 0, 0, 0, 0, 0, 0)
	isBest(t, n, 0, 1, 6, 17, 3, 2, 0, 0, 2, 0, 1)
	isBest(t, n, 1, 0, 1, 2, 0, 0, 0, 0, 0, 1, 0)
	isBest(t, n, 1, 0, 3, 9, 0, 0, 5, 0, 0, 1, 0)
	allFlows(n, func(f []int) { isWorth(t, n, 0, 1, f, 7, worthAnew(n, 1, f, 7)) })
	// Forth and back at a node between makes no more.
	n.Nodes = 3
	n.Arcs = append(n.Arcs, arc(1, 2, 6, 2), arc(2, 1, 8, 0), arc(1, 2, 0, 0), arc(2, 1, 1, 1), arc(1, 2, 1, 1))
	for _, c := range []struct {
		s, sink int
		worths  []int
	}{{0, 2, []int{0, 0, 0, 0, 0, 1, 5, 10, 17, 24}}, {2, 1, []int{8, 17, 26}}, {2, 0, []int{1, 2, 3, 9, 15}}} {
		for span, want := range c.worths {
			isMost(t, n, c.s, c.sink, span, want)
		}
	}
}

func TestCapsAtTheEdges(t *testing.T) {
	for _, width := range []int{0, 1, 2, 7, twenty - 1, twenty} {
		for _, nodes := range []int{2, 3, 50} {
			n := line(nodes, width, 2)
			isMost(t, n, 0, nodes-1, 2*nodes-3, 0)
			isBest(t, n, 0, nodes-1, 2*nodes-2, width, slices.Repeat([]int{width}, nodes-1)...)
			isMost(t, n, 0, nodes-1, longest, width*(1025-2*(nodes-1)))
			isMost(t, n, nodes-1, 0, longest, 0)
			// One arc alone decides, wherever it stands.
			for _, place := range []int{0, (nodes - 1) / 2, nodes - 2} {
				narrow := line(nodes, twenty, 2)
				narrow.Arcs[place].Cap = width
				isBest(t, narrow, 0, nodes-1, longest, width*(1025-2*(nodes-1)), slices.Repeat([]int{width}, nodes-1)...)
			}
		}
		areRefused(t, line(2, twenty+1, 0), 0, 1, 5, api.ErrLimit)
		areRefused(t, line(2, -1, 0), 0, 1, 5, api.ErrNet)
	}
}

func TestTimesAtTheEdges(t *testing.T) {
	for _, time := range []int{0, 1, 512, 513, 1024, 1025, twenty - 1, twenty} {
		n := line(3, 3, time)
		for _, span := range []int{0, 1, 2, 1023, longest} {
			isMost(t, n, 0, 2, span, 3*max(0, span+1-2*time))
			isMost(t, n, 0, 1, span, 3*max(0, span+1-time))
			isWorth(t, n, 0, 2, []int{3, 3}, span, 3*(span+1-2*time))
		}
	}
	areRefused(t, line(2, 1, twenty+1), 0, 1, 5, api.ErrLimit)
	areRefused(t, line(2, 1, -1), 0, 1, 5, api.ErrNet)
	// A long way of arcs that take no time is faster than a short one.
	n := line(50, 2, 0)
	n.Arcs = append(n.Arcs, arc(0, 49, 5, 1))
	isMost(t, n, 0, 49, 0, 2)
	isBest(t, n, 0, 49, 1, 9, append(slices.Repeat([]int{2}, 49), 5)...)
	isMost(t, n, 0, 49, longest, 2*1025+5*1024)
}

func TestGreatestWorth(t *testing.T) {
	for _, arcs := range []int{0, 1, 2, 199, 200} {
		n := api.Net{Nodes: 2, Arcs: slices.Repeat([]api.Arc{arc(0, 1, twenty, 0)}, arcs)}
		isBest(t, n, 0, 1, longest, arcs*twenty*1025, full(n)...)
		isWorth(t, n, 0, 1, full(n), longest, arcs*twenty*1025)
		isWorth(t, n, 1, 0, full(n), longest, -arcs*twenty*1025)
		isMost(t, n, 1, 0, longest, 0)
		for i := range n.Arcs {
			n.Arcs[i].Time = longest
		}
		isBest(t, n, 0, 1, longest, arcs*twenty, full(n)...)
		isMost(t, n, 0, 1, longest-1, 0)
		isBest(t, n, 0, 1, longest-2, 0, zero(n)...)
	}
	// Through a node between them, and through 48 of them.
	n, wide := api.Net{Nodes: 3}, api.Net{Nodes: 50}
	for i := range 100 {
		n.Arcs = append(n.Arcs, arc(0, 1, twenty, 1), arc(1, 2, twenty, 2))
		wide.Arcs = append(wide.Arcs, arc(0, 1+i%48, twenty, 2), arc(1+i%48, 49, twenty, 1))
	}
	isBest(t, n, 0, 2, longest, 100*twenty*1022, full(n)...)
	isBest(t, wide, 0, 49, longest, 100*twenty*1022, full(wide)...)
}

func TestSinkThatIsNotReached(t *testing.T) {
	// All arcs lead from the sink, to the source, or around behind a cut.
	n := api.Net{Nodes: 6, Arcs: []api.Arc{arc(5, 0, 9, 1), arc(0, 1, 9, 0), arc(1, 2, 9, 2), arc(2, 0, 9, 0), arc(3, 4, 9, 1), arc(4, 5, 9, 0), arc(5, 3, 9, 0), arc(3, 1, 9, 2)}}
	for _, span := range []int{0, 9, longest} {
		isBest(t, n, 0, 5, span, 0, zero(n)...)
		isMost(t, n, 5, 0, span, 9*max(0, span+1-1)+9*max(0, span+1-4))
	}
	// One arc without a Cap between the halves makes no difference, one with 1
	// does.
	n.Arcs = append(n.Arcs, arc(2, 4, 0, 3))
	isBest(t, n, 0, 5, longest, 0, zero(n)...)
	n.Arcs[8].Cap = 1
	isMost(t, n, 0, 5, 4, 0)
	isMost(t, n, 0, 5, 5, 1)
	alone := api.Net{Nodes: 50, Arcs: line(49, twenty, 0).Arcs}
	isMost(t, alone, 0, 49, longest, 0)
	isMost(t, alone, 49, 0, longest, 0)
	isMost(t, alone, 0, 48, 0, twenty)
}

func TestSinkThatIsNotReachedInTime(t *testing.T) {
	for _, nodes := range []int{2, 3, 9, 50} {
		for _, time := range []int{1, 5, 20} {
			n := line(nodes, 3, time)
			whole := time * (nodes - 1)
			for _, span := range []int{0, 1, whole / 2, whole - 1} {
				isMost(t, n, 0, nodes-1, min(span, whole-1), 0)
			}
			if whole > 1 {
				isBest(t, n, 0, nodes-1, whole-2, 0, zero(n)...)
			}
			isBest(t, n, 0, nodes-1, whole, 3, full(n)...)
		}
	}
	// Of two ways, only one is fast enough.
	n := api.Net{Nodes: 4, Arcs: []api.Arc{arc(0, 1, 2, 3), arc(1, 3, 2, 3), arc(0, 2, 5, 3), arc(2, 3, 5, 4), arc(0, 3, 7, twenty)}}
	isBest(t, n, 0, 3, 4, 0, 0, 0, 0, 0, 0)
	isMost(t, n, 0, 3, 5, 0)
	isMost(t, n, 0, 3, 6, 2)
	isBest(t, n, 0, 3, 7, 9, 2, 2, 5, 5, 0)
	isBest(t, n, 0, 3, longest, 2*1019+5*1018, 2, 2, 5, 5, 0)
}

// What makes no difference.

func TestHoldMakesNoDifference(t *testing.T) {
	next := numbers(133)
	for _, n := range nets() {
		if n.Nodes < 2 {
			continue
		}
		other := n
		other.Hold = !n.Hold
		s, sink := ends(next, n)
		f, worth := testBest(t, n, s, sink, 100)
		isMost(t, other, s, sink, 100, worth)
		isWorth(t, other, s, sink, f, 100, worth)
	}
}

func TestOrderOfArcsMakesNoDifference(t *testing.T) {
	next := numbers(134)
	for _, n := range nets() {
		if n.Nodes < 2 {
			continue
		}
		s, sink := ends(next, n)
		f := anyFlow(next, n, s, sink)
		other, g := n, slices.Clone(f)
		other.Arcs = slices.Clone(n.Arcs)
		for i := range other.Arcs {
			j := next(i + 1)
			other.Arcs[i], other.Arcs[j] = other.Arcs[j], other.Arcs[i]
			g[i], g[j] = g[j], g[i]
		}
		for _, span := range []int{3, 60, longest} {
			want, _ := Most(n, s, sink, span)
			isMost(t, other, s, sink, span, want)
			isWorth(t, other, s, sink, g, span, worthAnew(n, sink, f, span))
		}
	}
}

// R3, R4.

func TestArgumentsStay(t *testing.T) {
	next := numbers(135)
	all := append(nets(), api.Net{}, api.Net{Nodes: 51, Arcs: someArcs(3)}, api.Net{Nodes: 1, Arcs: someArcs(202)},
		api.Net{Nodes: 2, Arcs: []api.Arc{{To: 1}, {To: 2}, {Cap: 1}, {Cap: twenty + 1}}})
	for i, n := range all {
		flows := [][]int{zero(n), full(n), {-1, 3}}
		if n.Nodes > 1 && i < len(all)-4 {
			flows = append(flows, anyFlow(next, n, 0, n.Nodes-1))
		}
		for _, f := range flows {
			arcs, flow := slices.Clone(n.Arcs), slices.Clone(f)
			shorter := n
			shorter.Arcs = n.Arcs[:len(n.Arcs)/2]
			less := f[:min(len(f), len(n.Arcs)/2)]
			for _, e := range [][2]int{{0, n.Nodes - 1}, {0, 0}, {-1, most}} {
				for _, span := range []int{-1, 50} {
					Worth(n, e[0], e[1], f, span)
					Best(n, e[0], e[1], span)
					Most(n, e[0], e[1], span)
					Worth(shorter, e[0], e[1], less, span)
					Most(shorter, e[0], e[1], span)
				}
			}
			if !slices.Equal(n.Arcs, arcs) || !slices.Equal(f, flow) {
				t.Fatalf("R3: network %d: %v %v became %v %v", i, arcs, flow, n.Arcs, f)
			}
		}
	}
}

func TestResultsAreApart(t *testing.T) {
	n := line(4, 5, 1)
	for range 3 {
		isBest(t, n, 0, 3, 9, 35, 5, 5, 5)
		isBest(t, n, 3, 0, 9, 0, 0, 0, 0)
		for _, e := range [][2]int{{0, 3}, {3, 0}} {
			f, _, _ := Best(n, e[0], e[1], 9)
			for i := range f[:cap(f)] {
				f[:cap(f)][i] = -7
			}
		}
		if !slices.Equal(n.Arcs, line(4, 5, 1).Arcs) {
			t.Fatalf("R3: a change of the results made the arcs %v", n.Arcs)
		}
	}
}

func TestEarlierCallsMakeNoDifference(t *testing.T) {
	next := numbers(136)
	for _, n := range nets() {
		s, sink := next(n.Nodes), next(n.Nodes)
		f, worth, err := Best(n, s, sink, 90)
		areRefused(t, api.Net{Nodes: 51}, 0, 1, 5, api.ErrLimit)
		areRefused(t, n, 0, 0, 90, api.ErrEnds)
		isMost(t, line(50, 3, 1), 0, 49, 50, 6)
		if g, again, errAgain := Best(n, s, sink, 90); !slices.Equal(f, g) || again != worth || errAgain != err {
			t.Errorf("R4: %v from %d to %d: %v %d %d, before %v %d %d", n, s, sink, g, again, errAgain, f, worth, err)
		}
	}
}

func TestNoPathIsLeftIfAllTakeNoTime(t *testing.T) {
	next := numbers(137)
	for _, n := range nets() {
		if n.Nodes < 2 {
			continue
		}
		n.Arcs = slices.Clone(n.Arcs)
		for i := range n.Arcs {
			n.Arcs[i].Time = 0
		}
		s, sink := ends(next, n)
		f, _ := testBest(t, n, s, sink, 0)
		if l, ok, err := level.Path(n, f, s, sink); len(l) != 0 || ok || err != api.OK {
			t.Fatalf("L3: %v of %v from %d to %d: still %v %v %d", f, n, s, sink, l, ok, err)
		}
	}
}

func TestExamples(t *testing.T) {
	n := api.Net{Nodes: 3, Arcs: []api.Arc{{From: 0, To: 1, Cap: 2, Time: 1}, {From: 1, To: 2, Cap: 2, Time: 1}}}
	isMost(t, n, 0, 2, 1, 0)
	isBest(t, n, 0, 2, 2, 2, 2, 2)
	isBest(t, n, 0, 2, 5, 8, 2, 2)
}
