package decomp

import (
	"math"
	"reflect"
	"slices"
	"testing"

	"ebbtide/api"
	"ebbtide/cost"
	"ebbtide/level"
	"ebbtide/static"
)

const (
	most  = math.MaxInt64
	least = math.MinInt64
	// twenty is what an arc's Cap and Time may be at most.
	twenty = 1048576
	// veryFar is how far it is to where no path leads.
	veryFar = 1 << 30
)

// numbers returns a function that returns one number after the other, the same
// ones in each run.
func numbers(seed uint64) func(below int) int {
	return func(below int) int {
		seed = seed*6364136223846793005 + 1442695040888963407
		return int(seed>>33) % below
	}
}

// arc returns an arc.
func arc(from, to, width, time int) api.Arc {
	return api.Arc{From: from, To: to, Cap: width, Time: time}
}

// chain returns a chain of so much along the arcs.
func chain(amount int, arcs ...int) api.Chain {
	return api.Chain{Arcs: arcs, N: amount}
}

// The plain ways of working out what the chapter asks for, each by another
// method than the package's. The networks and flows that they are given are
// right.

// distances returns for each node over how many arcs with a rest one comes from it
// to the goal at least, by going over all arcs until nothing is changed.
func distances(n api.Net, left []int, goal int) []int {
	far := slices.Repeat([]int{veryFar}, n.Nodes)
	far[goal] = 0
	for changed := true; changed; {
		changed = false
		for i, a := range n.Arcs {
			if left[i] > 0 && far[a.From] > far[a.To]+1 {
				far[a.From] = far[a.To] + 1
				changed = true
			}
		}
	}
	return far
}

// wayAnew returns the way from a node to the goal over arcs with a rest, each of
// which is the first one that comes nearer, and whether there is a way.
func wayAnew(n api.Net, left []int, node, goal int) (way []int, ok bool) {
	far := distances(n, left, goal)
	if far[node] == veryFar {
		return nil, false
	}
	for node != goal {
		next := slices.IndexFunc(n.Arcs, func(a api.Arc) bool { return a.From == node && far[a.To] == far[node]-1 })
		for left[next] == 0 {
			next += 1 + slices.IndexFunc(n.Arcs[next+1:], func(a api.Arc) bool { return a.From == node && far[a.To] == far[node]-1 })
		}
		way = append(way, next)
		node = n.Arcs[next].To
	}
	return way, true
}

// cycleAnew returns the cycle that is removed next, looking at all arcs from the
// first one on.
func cycleAnew(n api.Net, left []int) (arcs []int, ok bool) {
	for i, a := range n.Arcs {
		if left[i] == 0 {
			continue
		}
		if way, ok := wayAnew(n, left, a.To, a.From); ok {
			return append([]int{i}, way...), true
		}
	}
	return nil, false
}

// cutAnew subtracts as much as there is on each of the arcs.
func cutAnew(left []int, arcs []int) api.Chain {
	amounts := []int{}
	for _, i := range arcs {
		amounts = append(amounts, left[i])
	}
	amount := slices.Min(amounts)
	for _, i := range arcs {
		left[i] -= amount
	}
	return chain(amount, arcs...)
}

// splitAnew returns what Split does for a flow that it splits.
func splitAnew(n api.Net, s, sink int, f []int) (chains, cycles []api.Chain) {
	left := slices.Clone(f)
	for arcs, ok := cycleAnew(n, left); ok; arcs, ok = cycleAnew(n, left) {
		cycles = append(cycles, cutAnew(left, arcs))
	}
	for arcs, ok := wayAnew(n, left, s, sink); ok; arcs, ok = wayAnew(n, left, s, sink) {
		chains = append(chains, cutAnew(left, arcs))
	}
	return chains, cycles
}

// staysAnew returns for each node what stays there of a flow.
func staysAnew(n api.Net, f []int) []int {
	stays := make([]int, n.Nodes)
	for i, a := range n.Arcs {
		stays[a.From] -= f[i]
		stays[a.To] += f[i]
	}
	return stays
}

// valueAnew returns what stays at the sink, and whether nothing stays but there and
// at s.
func valueAnew(n api.Net, s, sink int, f []int) (value int, ok bool) {
	stays := staysAnew(n, f)
	value = stays[sink]
	stays[s], stays[sink] = 0, 0
	return value, !slices.ContainsFunc(stays, func(k int) bool { return k != 0 })
}

// sumOf returns the flow that chains make up.
func sumOf(n api.Net, chains []api.Chain) []int {
	sum := zero(n)
	for _, c := range chains {
		for _, i := range c.Arcs {
			sum[i] += c.N
		}
	}
	return sum
}

// costAnew returns the sum of what flows on each arc times its Time.
func costAnew(n api.Net, f []int) int {
	sum := 0
	for i, a := range n.Arcs {
		sum += a.Time * f[i]
	}
	return sum
}

// lengthsAnew returns what Lengths does, each length by how often each arc is in
// the chain.
func lengthsAnew(n api.Net, l []api.Chain) ([]int, api.Errno) {
	var out []int
	for _, c := range l {
		often := map[int]int{}
		for _, i := range c.Arcs {
			often[i]++
		}
		sum, known := 0, 0
		for i, a := range n.Arcs {
			sum += often[i] * a.Time
			known += often[i]
		}
		if known != len(c.Arcs) {
			return nil, api.ErrArg
		}
		out = append(out, sum)
	}
	return out, api.OK
}

// allFlows calls do with each flow of the network.
func allFlows(n api.Net, do func(f []int)) {
	f := zero(n)
	var fill func(place int)
	fill = func(place int) {
		if place == len(f) {
			do(f)
			return
		}
		for k := range n.Arcs[place].Cap + 1 {
			f[place] = k
			fill(place + 1)
		}
		f[place] = 0
	}
	fill(0)
}

// products calls do with each list that has so many of the items.
func products[T any](items []T, length int, do func(l []T)) {
	l := make([]T, length)
	var fill func(place int)
	fill = func(place int) {
		if place == length {
			do(l)
			return
		}
		for _, x := range items {
			l[place] = x
			fill(place + 1)
		}
	}
	fill(0)
}

// What fails unless a call answers as the chapter asks.

// areChains reports whether two lists have the same chains.
func areChains(l, m []api.Chain) bool {
	return slices.EqualFunc(l, m, func(c, d api.Chain) bool { return c.N == d.N && slices.Equal(c.Arcs, d.Arcs) })
}

// isRefused fails unless Split and Clean return the error and nothing else.
func isRefused(t *testing.T, n api.Net, s, sink int, f []int, want api.Errno) {
	t.Helper()
	if chains, cycles, err := Split(n, s, sink, f); len(chains) != 0 || len(cycles) != 0 || err != want {
		t.Errorf("M1: %d nodes, %d arcs, from %d to %d, flow of %d: %v %v %d, want %d", n.Nodes, len(n.Arcs), s, sink, len(f), chains, cycles, err, want)
	}
	if g, err := Clean(n, s, sink, f); len(g) != 0 || err != want {
		t.Errorf("M3: %d nodes, %d arcs, from %d to %d, flow of %d: %v %d, want %d", n.Nodes, len(n.Arcs), s, sink, len(f), g, err, want)
	}
}

// areLengths holds Lengths against M2, for a network that is right.
func areLengths(t *testing.T, n api.Net, l []api.Chain) {
	t.Helper()
	sums, err := Lengths(n, l)
	if want, wantErr := lengthsAnew(n, l); !slices.Equal(sums, want) || err != wantErr {
		t.Errorf("M2: %d chains in %v: %v %d, want %v %d", len(l), n, sums, err, want, wantErr)
	}
}

// isLengths fails unless Lengths returns those.
func isLengths(t *testing.T, n api.Net, l []api.Chain, want ...int) {
	t.Helper()
	areLengths(t, n, l)
	if sums, err := Lengths(n, l); !slices.Equal(sums, want) || err != api.OK {
		t.Errorf("M2: %d chains in %v: %v %d, want %v", len(l), n, sums, err, want)
	}
}

// isNoLengths fails unless Lengths returns that error and nothing else.
func isNoLengths(t *testing.T, n api.Net, l []api.Chain, want api.Errno) {
	t.Helper()
	if sums, err := Lengths(n, l); len(sums) != 0 || err != want {
		t.Errorf("M2: %d chains, %d nodes, %d arcs: %v %d, want %d", len(l), n.Nodes, len(n.Arcs), sums, err, want)
	}
}

// testSplit holds Split, Clean and Lengths against M1 to M4 for a flow that is
// right and has a value of at least 0, and returns the chains and cycles.
func testSplit(t *testing.T, n api.Net, s, sink int, f []int) (chains, cycles []api.Chain) {
	t.Helper()
	chains, cycles, err := Split(n, s, sink, f)
	wantChains, wantCycles := splitAnew(n, s, sink, f)
	if !areChains(chains, wantChains) || !areChains(cycles, wantCycles) || err != api.OK {
		t.Fatalf("M1: %v of %v from %d to %d: %v %v %d, want %v %v", f, n, s, sink, chains, cycles, err, wantChains, wantCycles)
	}
	testParts(t, n, s, sink, f, chains, cycles)
	testClean(t, n, s, sink, f, chains)
	areLengths(t, n, slices.Concat(chains, cycles))
	return chains, cycles
}

// testParts holds chains and cycles of a flow against M4.
func testParts(t *testing.T, n api.Net, s, sink int, f []int, chains, cycles []api.Chain) {
	t.Helper()
	all := slices.Concat(chains, cycles)
	if !slices.Equal(sumOf(n, all), f) || len(all) > len(n.Arcs) {
		t.Fatalf("M4: %v of %v from %d to %d: %v %v", f, n, s, sink, chains, cycles)
	}
	value, want := 0, staysAnew(n, f)[sink]
	for i, c := range all {
		from, to := s, sink
		if i >= len(chains) {
			from, to = n.Arcs[c.Arcs[0]].From, n.Arcs[c.Arcs[0]].From
		} else {
			value += c.N
		}
		if c.N < 1 || !isSimple(n, c.Arcs, from, to) {
			t.Fatalf("M4: %v of %v from %d to %d: %v", f, n, s, sink, c)
		}
	}
	if again, err := static.Check(n, s, sink, f); value != want || value != again || err != api.OK {
		t.Fatalf("M4: %v of %v from %d to %d: the chains have %d, want %d (%d %d)", f, n, s, sink, value, want, again, err)
	}
}

// isSimple reports whether the arcs lead from a node to another one, or back to it,
// and to each node once at most.
func isSimple(n api.Net, arcs []int, from, to int) bool {
	been := map[int]bool{}
	for _, i := range arcs {
		if n.Arcs[i].From != from || been[from] {
			return false
		}
		been[from] = true
		from = n.Arcs[i].To
	}
	return len(arcs) > 0 && from == to && (!been[to] || n.Arcs[arcs[0]].From == to)
}

// testClean holds Clean against M3 and M4.
func testClean(t *testing.T, n api.Net, s, sink int, f []int, chains []api.Chain) {
	t.Helper()
	g, err := Clean(n, s, sink, f)
	if want := sumOf(n, chains); !slices.Equal(g, want) || err != api.OK {
		t.Fatalf("M3: %v of %v from %d to %d: %v %d, want %v", f, n, s, sink, g, err, want)
	}
	if h, err := Clean(n, s, sink, g); !slices.Equal(h, g) || err != api.OK {
		t.Fatalf("M4: %v of %v from %d to %d: %v, but again %v %d", f, n, s, sink, g, h, err)
	}
	if after, before := costAnew(n, g), costAnew(n, f); after > before {
		t.Fatalf("M4: %v of %v from %d to %d: %v costs %d, before %d", f, n, s, sink, g, after, before)
	}
	after, err := static.Check(n, s, sink, g)
	if before, _ := static.Check(n, s, sink, f); after != before || err != api.OK {
		t.Fatalf("M4: %v of %v from %d to %d: %v has the value %d %d, before %d", f, n, s, sink, g, after, err, before)
	}
	if _, ok := cycleAnew(n, g); ok {
		t.Fatalf("M3: %v of %v from %d to %d: %v has a cycle", f, n, s, sink, g)
	}
}

// isSplit fails unless Split returns that.
func isSplit(t *testing.T, n api.Net, s, sink int, f []int, chains, cycles []api.Chain) {
	t.Helper()
	a, b := testSplit(t, n, s, sink, f)
	if !areChains(a, chains) || !areChains(b, cycles) {
		t.Errorf("M1: %v of %v from %d to %d: %v %v, want %v %v", f, n, s, sink, a, b, chains, cycles)
	}
}

// testAny holds Split and Clean against what the chapter asks of any flow of a
// network, and returns whether it has chains and cycles.
func testAny(t *testing.T, n api.Net, s, sink int, f []int) (chains, cycles []api.Chain) {
	t.Helper()
	if value, ok := valueAnew(n, s, sink, f); !ok || value < 0 {
		isRefused(t, n, s, sink, f, api.ErrFlow)
		return nil, nil
	}
	return testSplit(t, n, s, sink, f)
}

// Networks and flows to hold the calls against.

// someArcs returns so many arcs from 0 to itself.
func someArcs(n int) []api.Arc {
	l := make([]api.Arc, n)
	for i := range l {
		l[i] = api.Arc{Cap: i, Time: 2 * i}
	}
	return l
}

// line returns a network whose arcs lead from each node to the one after it.
func line(nodes, width, time int) api.Net {
	n := api.Net{Nodes: nodes}
	for node := 1; node < nodes; node++ {
		n.Arcs = append(n.Arcs, arc(node-1, node, width, time))
	}
	return n
}

// ring returns a line with an arc from its last node to its first.
func ring(nodes, width, time int) api.Net {
	n := line(nodes, width, time)
	n.Arcs = append(n.Arcs, arc(nodes-1, 0, width, time))
	return n
}

// zero returns the flow of zeros.
func zero(n api.Net) []int {
	return make([]int, len(n.Arcs))
}

// full returns the flow in which each arc has as much as its Cap.
func full(n api.Net) []int {
	f := zero(n)
	for i, a := range n.Arcs {
		f[i] = a.Cap
	}
	return f
}

// up returns the numbers from one to another, both included.
func up(first, last int) []int {
	var l []int
	for i := first; i <= last; i++ {
		l = append(l, i)
	}
	return l
}

// stroll returns arcs that lead from a node to the goal, any ones, or none if it
// has not come there soon.
func stroll(next func(below int) int, n api.Net, node, goal int) []int {
	var l []int
	for range 4 * n.Nodes {
		var open []int
		for i, a := range n.Arcs {
			if a.From == node {
				open = append(open, i)
			}
		}
		if len(open) == 0 {
			return nil
		}
		i := open[next(len(open))]
		l = append(l, i)
		if node = n.Arcs[i].To; node == goal {
			return l
		}
	}
	return nil
}

// woven is a network, two of its nodes, and a flow between them.
type woven struct {
	api.Net
	s, sink int
	flow    []int
}

// weave returns a network with a flow that consists of so many strolls from s to
// the sink, and of so many from nodes to themselves.
func weave(next func(below int) int, n api.Net, there, around int) woven {
	x := woven{n, next(n.Nodes), 0, zero(n)}
	x.sink = (x.s + 1 + next(n.Nodes-1)) % n.Nodes
	for i := range there + around {
		from, to := x.s, x.sink
		if i >= there {
			from = next(n.Nodes)
			to = from
		}
		k := 1 + next(9)
		for _, place := range stroll(next, n, from, to) {
			x.flow[place] += k
		}
	}
	x.widen(next)
	return x
}

// widen makes the flow as great as may be, now and then, and gives each arc a Cap
// for it.
func (x *woven) widen(next func(below int) int) {
	more := twenty / max(1, slices.Max(append(slices.Clone(x.flow), 1)))
	if next(3) > 0 {
		more = 1
	}
	x.Arcs = slices.Clone(x.Arcs)
	for place := range x.Arcs {
		x.flow[place] *= more
		x.Arcs[place].Cap = min(twenty, x.flow[place]+[]int{0, 0, 1, next(100), twenty}[next(5)])
	}
}

// mixed returns a network of that many nodes and arcs of all kinds, which lead to
// any nodes, or to near ones, or only to those behind.
func mixed(next func(below int) int, nodes, arcs, kind int) api.Net {
	times := []int{0, 1, 2, 3, 7, 1000, twenty - 1, twenty}
	n := api.Net{Nodes: nodes, Hold: next(2) == 0}
	for range arcs {
		from, to := next(nodes), next(nodes)
		switch {
		case kind == 1:
			to = max(0, min(from-2+next(6), nodes-1))
		case kind == 2 && from == to:
			from, to = 0, nodes-1
		case kind == 2:
			from, to = min(from, to), max(from, to)
		}
		n.Arcs = append(n.Arcs, arc(from, to, 0, times[next(len(times))]))
	}
	return n
}

// weaves returns networks with flows, the smallest and the greatest among them.
func weaves() []woven {
	next := numbers(13)
	var out []woven
	for _, n := range []api.Net{{Nodes: 2}, {Nodes: 50}, {Nodes: 2, Arcs: someArcs(200)}, {Nodes: 50, Arcs: someArcs(200)}, line(2, 0, 0), line(50, 0, twenty), ring(50, 0, 1)} {
		out = append(out, weave(next, n, 0, 0), weave(next, n, 2, 3), weave(next, n, 9, 0), weave(next, n, 0, 9))
	}
	for nodes := 2; nodes <= 50; nodes += 1 + next(3) {
		for kind := range 3 {
			out = append(out, weave(next, mixed(next, nodes, 2*nodes, kind), next(9), next(9)), weave(next, mixed(next, nodes, next(201), kind), next(20), next(20)))
		}
	}
	for _, nodes := range []int{2, 3, 4, 7, 12, 20, 35, 50} {
		for kind := range 3 {
			n := mixed(next, nodes, 200, kind)
			out = append(out, weave(next, n, 40, 0), weave(next, n, 20, 20), weave(next, n, 0, 40))
		}
	}
	return out
}

// noFlows returns lists that are no flows of a network with arcs.
func noFlows(n api.Net) [][]int {
	good, last := zero(n), len(n.Arcs)-1
	out := [][]int{nil, {}, good[:last], append(slices.Clone(good), 0), slices.Repeat(good, 2), make([]int, 1000)}
	for _, place := range []int{0, last / 2, last} {
		for _, k := range []int{-1, least, n.Arcs[place].Cap + 1, twenty + 1, 1 << 32, most} {
			f := slices.Clone(good)
			f[place] = k
			out = append(out, f)
		}
	}
	return out
}

// numbersAround returns numbers that may be nodes, and ones that are none.
func numbersAround(nodes int) []int {
	return []int{0, nodes - 1, nodes / 2, -1, nodes, nodes + 1, -nodes, 50, 51, 1 << 32, -1 << 32, most, least}
}

// M1 to M4 for many networks.

// sharesNode reports whether two chains come to the same node.
func sharesNode(n api.Net, c, d api.Chain) bool {
	return slices.ContainsFunc(c.Arcs, func(i int) bool {
		return slices.ContainsFunc(d.Arcs, func(j int) bool { return n.Arcs[i].From == n.Arcs[j].From })
	})
}

// sharesArc reports whether two chains have the same arc.
func sharesArc(c, d api.Chain) bool {
	return slices.ContainsFunc(c.Arcs, func(i int) bool { return slices.Contains(d.Arcs, i) })
}

// seen counts what has been seen in flows.
type seen struct {
	chains, cycles, onlyChains, onlyCycles, both, none int
	nodes, arcs, cyclesNodes, cyclesArcs, most         int
}

// count counts the chains and cycles of a flow.
func (x *seen) count(n api.Net, chains, cycles []api.Chain) {
	x.chains += len(chains)
	x.cycles += len(cycles)
	x.most = max(x.most, len(chains)+len(cycles))
	switch {
	case len(chains) > 0 && len(cycles) > 0:
		x.both++
	case len(chains) > 0:
		x.onlyChains++
	case len(cycles) > 0:
		x.onlyCycles++
	default:
		x.none++
	}
	for i, c := range cycles {
		if slices.ContainsFunc(chains, func(d api.Chain) bool { return sharesNode(n, c, d) }) {
			x.nodes++
		}
		if slices.ContainsFunc(chains, func(d api.Chain) bool { return sharesArc(c, d) }) {
			x.arcs++
		}
		if slices.ContainsFunc(cycles[:i], func(d api.Chain) bool { return sharesNode(n, c, d) }) {
			x.cyclesNodes++
		}
		if slices.ContainsFunc(cycles[:i], func(d api.Chain) bool { return sharesArc(c, d) }) {
			x.cyclesArcs++
		}
	}
}

// isEnough fails unless enough of each kind has been seen.
func (x *seen) isEnough(t *testing.T, enough int) {
	t.Helper()
	for i, k := range []int{x.chains, x.cycles, x.onlyChains, x.onlyCycles, x.both, x.none, x.nodes, x.arcs, x.cyclesNodes, x.cyclesArcs} {
		if k < enough {
			t.Errorf("only %d of kind %d: %+v", k, i, *x)
		}
	}
}

func TestManyNets(t *testing.T) {
	var x seen
	for _, w := range weaves() {
		chains, cycles := testSplit(t, w.Net, w.s, w.sink, w.flow)
		x.count(w.Net, chains, cycles)
		isOtherWay(t, w)
	}
	x.isEnough(t, 10)
	if x.chains < 800 || x.cycles < 1000 || x.most < 100 {
		t.Errorf("only %+v", x)
	}
}

// isOtherWay fails unless the flow is refused from the sink to s, or has no value
// and is split into the same cycles.
func isOtherWay(t *testing.T, w woven) {
	t.Helper()
	if value, _ := valueAnew(w.Net, w.s, w.sink, w.flow); value > 0 {
		isRefused(t, w.Net, w.sink, w.s, w.flow, api.ErrFlow)
		return
	}
	_, cycles := testSplit(t, w.Net, w.s, w.sink, w.flow)
	isSplit(t, w.Net, w.sink, w.s, w.flow, nil, cycles)
}

func TestAllSmallNets(t *testing.T) {
	var arcs []api.Arc
	for place := range 9 {
		arcs = append(arcs, arc(place%3, place/3, 1, place))
	}
	var x seen
	for length := range 5 {
		products(arcs, length, func(l []api.Arc) {
			n := api.Net{Nodes: 3, Arcs: slices.Clone(l)}
			for i := range l {
				n.Arcs[i].Cap += (i + length) % 2
			}
			allFlows(n, func(f []int) {
				chains, cycles := testAny(t, n, 0, 2, f)
				x.count(n, chains, cycles)
				if length < 4 {
					testAny(t, n, 1, 0, f)
					testAny(t, n, 2, 1, f)
				}
			})
		})
	}
	x.isEnough(t, 100)
}

func TestManyMiddlingNets(t *testing.T) {
	next := numbers(131)
	var x seen
	for i := range 600 {
		nodes := 2 + next(4)
		n := mixed(next, nodes, 4+next(5), i%2)
		for place := range n.Arcs {
			n.Arcs[place].Cap = 1 + next(2)
		}
		allFlows(n, func(f []int) {
			if value, ok := valueAnew(n, 0, nodes-1, f); ok && value >= 0 {
				chains, cycles := testSplit(t, n, 0, nodes-1, f)
				x.count(n, chains, cycles)
			}
		})
	}
	x.isEnough(t, 300)
}

// Which cycle is removed next.

func TestTheFirstArcOnACycleBegins(t *testing.T) {
	// 0-1-2-3-0 and 3-3, 1-3-0-1: the first arc is on none of them but the long ones.
	n := api.Net{Nodes: 5, Arcs: []api.Arc{arc(4, 0, 9, 1), arc(2, 3, 9, 1), arc(3, 0, 9, 1), arc(0, 1, 9, 1), arc(1, 2, 9, 1), arc(3, 3, 9, 1), arc(1, 3, 9, 1)}}
	isSplit(t, n, 4, 3, []int{2, 3, 5, 7, 3, 4, 4}, []api.Chain{chain(2, 0, 3, 6)}, []api.Chain{chain(3, 1, 2, 3, 4), chain(2, 2, 3, 6), chain(4, 5)})
	// The same arc begins as long as there is a cycle with it.
	star := api.Net{Nodes: 4, Arcs: []api.Arc{arc(0, 1, 9, 1), arc(1, 0, 2, 1), arc(1, 2, 3, 1), arc(2, 0, 3, 1), arc(1, 0, 1, 5), arc(3, 3, 9, 0)}}
	isSplit(t, star, 0, 3, []int{6, 2, 3, 3, 1, 7}, nil, []api.Chain{chain(2, 0, 1), chain(1, 0, 4), chain(3, 0, 2, 3), chain(7, 5)})
	isSplit(t, star, 2, 1, []int{5, 2, 0, 2, 1, 0}, []api.Chain{chain(2, 3, 0)}, []api.Chain{chain(2, 0, 1), chain(1, 0, 4)})
}

func TestArcsOfACycleInOrder(t *testing.T) {
	for nodes := 2; nodes <= 50; nodes++ {
		for _, amount := range []int{1, 5, twenty} {
			n := ring(nodes, twenty, 2)
			f := slices.Repeat([]int{amount}, nodes)
			isSplit(t, n, 0, nodes-1, f, nil, []api.Chain{chain(amount, up(0, nodes-1)...)})
			isSplit(t, n, nodes-1, 0, f, nil, []api.Chain{chain(amount, up(0, nodes-1)...)})
			// The other way around, the first arc comes ahead of the last one.
			slices.Reverse(n.Arcs)
			back := append(up(1, nodes-1), 0)
			slices.Reverse(back)
			isSplit(t, n, 0, nodes-1, f, nil, []api.Chain{chain(amount, back...)})
		}
	}
}

func TestTheShortestWayClosesACycle(t *testing.T) {
	// From 1 back to 0 it is shorter over 4, though the arcs over 2 and 3 come
	// first.
	n := api.Net{Nodes: 6, Arcs: []api.Arc{arc(0, 1, 9, 9), arc(1, 2, 9, 0), arc(2, 3, 9, 0), arc(3, 0, 9, 0), arc(1, 4, 9, 9), arc(4, 0, 9, 9), arc(1, 4, 9, 0), arc(4, 0, 9, 0)}}
	isSplit(t, n, 4, 5, []int{9, 2, 2, 2, 3, 3, 4, 4}, nil, []api.Chain{chain(3, 0, 4, 5), chain(4, 0, 6, 7), chain(2, 0, 1, 2, 3)})
	isSplit(t, n, 4, 5, []int{8, 2, 2, 2, 2, 3, 4, 3}, nil, []api.Chain{chain(2, 0, 4, 5), chain(1, 0, 6, 5), chain(3, 0, 6, 7), chain(2, 0, 1, 2, 3)})
}

func TestOfShortestWaysTheFirst(t *testing.T) {
	// From 1 to 0 over 2 and over 3: the first arc decides, not the later ones.
	n := api.Net{Nodes: 4, Arcs: []api.Arc{arc(2, 0, 9, 1), arc(3, 0, 9, 1), arc(1, 3, 9, 1), arc(1, 2, 9, 1), arc(0, 1, 9, 1)}}
	isSplit(t, n, 1, 0, []int{1, 2, 2, 1, 0}, []api.Chain{chain(2, 2, 1), chain(1, 3, 0)}, nil)
	isSplit(t, n, 1, 0, []int{1, 2, 2, 1, 2}, []api.Chain{chain(1, 2, 1)}, []api.Chain{chain(1, 0, 4, 3), chain(1, 1, 4, 2)})
	n.Arcs[2], n.Arcs[3] = n.Arcs[3], n.Arcs[2]
	isSplit(t, n, 1, 0, []int{1, 2, 1, 2, 0}, []api.Chain{chain(1, 2, 0), chain(2, 3, 1)}, nil)
}

func TestCyclesComeAheadOfChains(t *testing.T) {
	// With what is on 0-1 and 1-2, the chain could go on, and the cycle then not.
	n := api.Net{Nodes: 4, Arcs: []api.Arc{arc(0, 1, 9, 1), arc(1, 2, 9, 1), arc(2, 0, 9, 1), arc(2, 3, 9, 1), arc(0, 3, 9, 1)}}
	isSplit(t, n, 0, 3, []int{2, 2, 2, 0, 3}, []api.Chain{chain(3, 4)}, []api.Chain{chain(2, 0, 1, 2)})
	isSplit(t, n, 0, 3, []int{5, 5, 2, 3, 1}, []api.Chain{chain(1, 4), chain(3, 0, 1, 3)}, []api.Chain{chain(2, 0, 1, 2)})
	// From 0 to 2 over 1 and back over 1: not four arcs, but two cycles.
	both := api.Net{Nodes: 3, Arcs: []api.Arc{arc(0, 1, 9, 1), arc(1, 0, 9, 1), arc(1, 2, 9, 1), arc(2, 1, 9, 1)}}
	isSplit(t, both, 0, 2, []int{5, 2, 4, 1}, []api.Chain{chain(3, 0, 2)}, []api.Chain{chain(2, 0, 1), chain(1, 2, 3)})
}

func TestCyclesAtTheEnds(t *testing.T) {
	// Cycles through s and t, and between them.
	n := api.Net{Nodes: 2, Arcs: []api.Arc{arc(0, 1, 9, 1), arc(1, 0, 9, 1), arc(0, 0, 9, 1), arc(1, 1, 9, 1)}}
	isSplit(t, n, 0, 1, []int{5, 3, 1, 2}, []api.Chain{chain(2, 0)}, []api.Chain{chain(3, 0, 1), chain(1, 2), chain(2, 3)})
	isSplit(t, n, 1, 0, []int{3, 5, 1, 2}, []api.Chain{chain(2, 1)}, []api.Chain{chain(3, 0, 1), chain(1, 2), chain(2, 3)})
	isSplit(t, n, 1, 0, []int{3, 3, 0, 2}, nil, []api.Chain{chain(3, 0, 1), chain(2, 3)})
	isRefused(t, n, 0, 1, []int{3, 5, 1, 2}, api.ErrFlow)
	isRefused(t, n, 1, 0, []int{5, 3, 1, 2}, api.ErrFlow)
}

func TestTheLeastRestDecides(t *testing.T) {
	n := line(5, 9, 1)
	n.Arcs = append(n.Arcs, arc(0, 2, 9, 1), arc(2, 4, 9, 1))
	isSplit(t, n, 0, 4, []int{3, 3, 5, 5, 6, 4}, []api.Chain{chain(4, 4, 5), chain(2, 4, 2, 3), chain(3, 0, 1, 2, 3)}, nil)
	isSplit(t, n, 0, 4, []int{3, 3, 1, 1, 1, 3}, []api.Chain{chain(1, 4, 5), chain(2, 0, 1, 5), chain(1, 0, 1, 2, 3)}, nil)
	isSplit(t, n, 0, 4, []int{0, 0, 0, 0, 9, 9}, []api.Chain{chain(9, 4, 5)}, nil)
	// Each arc in turn has the least.
	for place := range 4 {
		n := line(5, 9, 1)
		f := []int{7, 7, 7, 7, 4}
		f[place] = 3
		n.Arcs = append(n.Arcs, arc(place, place+1, 9, 0))
		isSplit(t, n, 0, 4, f, []api.Chain{chain(3, 0, 1, 2, 3), chain(4, slices.Concat(up(0, place-1), []int{4}, up(place+1, 3))...)}, nil)
	}
}

func TestAsManyAsArcs(t *testing.T) {
	// Loops, and arcs side by side: each arc alone is one.
	loops := api.Net{Nodes: 2, Arcs: slices.Repeat([]api.Arc{arc(1, 1, twenty, 1)}, 200)}
	if _, cycles := testSplit(t, loops, 0, 1, full(loops)); len(cycles) != 200 {
		t.Errorf("M1: %d cycles", len(cycles))
	}
	beside := api.Net{Nodes: 2, Arcs: slices.Repeat([]api.Arc{arc(0, 1, twenty, 1)}, 200)}
	if chains, _ := testSplit(t, beside, 0, 1, full(beside)); len(chains) != 200 || chains[199].N != twenty || chains[199].Arcs[0] != 199 {
		t.Errorf("M1: %d chains", len(chains))
	}
	// Two nodes with arcs between them whose amounts never end together: each
	// removal but the last one uses up one arc.
	n, f := api.Net{Nodes: 3}, []int{}
	for i := range 100 {
		n.Arcs = append(n.Arcs, arc(0, 1, 9, 1), arc(1, 2, 9, 1))
		f = append(f, 2, 2)
		if i == 0 {
			f[1] = 1
		}
		if i == 99 {
			f[199] = 3
		}
	}
	n.Arcs = n.Arcs[:200]
	if chains, _ := testSplit(t, n, 0, 2, f); len(chains) != 199 {
		t.Errorf("M1: %d chains", len(chains))
	}
}

// Errors.

func TestErrorsOfCheckComeFirst(t *testing.T) {
	right := api.Arc{To: 1, Cap: 3, Time: 4}
	wrong := api.Arc{From: 2, To: 1}
	great := api.Arc{To: 1, Time: twenty + 1}
	for _, c := range []struct {
		nodes int
		arcs  []api.Arc
		want  api.Errno
	}{
		{0, nil, api.ErrNet}, {-1, nil, api.ErrNet}, {least, nil, api.ErrNet}, {0, []api.Arc{great}, api.ErrNet}, {0, someArcs(201), api.ErrNet},
		{51, nil, api.ErrLimit}, {most, nil, api.ErrLimit}, {51, []api.Arc{wrong}, api.ErrLimit},
		{1, someArcs(201), api.ErrLimit}, {50, someArcs(5000), api.ErrLimit}, {2, append([]api.Arc{wrong}, someArcs(200)...), api.ErrLimit},
		{2, []api.Arc{{From: -1}}, api.ErrNet}, {2, []api.Arc{{From: 2}}, api.ErrNet}, {2, []api.Arc{{From: least}}, api.ErrNet},
		{2, []api.Arc{{To: -1}}, api.ErrNet}, {2, []api.Arc{{To: 2}}, api.ErrNet}, {2, []api.Arc{{To: most}}, api.ErrNet},
		{2, []api.Arc{{Cap: -1}}, api.ErrNet}, {2, []api.Arc{{Time: -1}}, api.ErrNet}, {2, []api.Arc{{To: 1, Time: least}}, api.ErrNet},
		{2, []api.Arc{{Cap: twenty + 1}}, api.ErrLimit}, {2, []api.Arc{{Time: twenty + 1}}, api.ErrLimit}, {2, []api.Arc{{To: 1, Cap: most}}, api.ErrLimit},
		{2, []api.Arc{right, wrong, great}, api.ErrNet}, {2, []api.Arc{right, great, wrong}, api.ErrLimit},
		{2, append(someArcs(199), wrong), api.ErrNet}, {2, append(someArcs(199), great), api.ErrLimit},
	} {
		n := api.Net{Nodes: c.nodes, Arcs: c.arcs}
		for _, f := range [][]int{make([]int, len(c.arcs)), nil, {-1}, {twenty + 2}, {1}} {
			for _, s := range numbersAround(c.nodes) {
				for _, sink := range []int{0, 1, c.nodes - 1, c.nodes, -1, most, s} {
					isRefused(t, n, s, sink, f, c.want)
				}
			}
		}
		for _, l := range [][]api.Chain{nil, {}, {{}}, {chain(1, 0)}, {chain(1, -1)}, {chain(1, most)}} {
			isNoLengths(t, n, l, c.want)
		}
	}
}

func TestEnds(t *testing.T) {
	good, bad := 0, 0
	for _, n := range []api.Net{{Nodes: 2}, line(2, 3, 1), {Nodes: 3, Arcs: someArcs(200)}, ring(7, 2, 2), line(49, 3, 1), line(50, twenty, 0), {Nodes: 50, Arcs: someArcs(200)}} {
		for _, s := range numbersAround(n.Nodes) {
			for _, sink := range append(numbersAround(n.Nodes), s) {
				if s >= 0 && s < n.Nodes && sink >= 0 && sink < n.Nodes && s != sink {
					isSplit(t, n, s, sink, zero(n), nil, nil)
					good++
					continue
				}
				// ErrEnds comes ahead of what is wrong with the flow.
				for _, f := range [][]int{zero(n), full(n), nil, {-1}, append(zero(n), 1)} {
					isRefused(t, n, s, sink, f, api.ErrEnds)
				}
				bad++
			}
		}
	}
	if good < 30 || bad < 500 {
		t.Errorf("only %d ends that are right, and %d others", good, bad)
	}
	for nodes := 1; nodes <= 50; nodes++ {
		n := line(nodes, 1, 1)
		for s := -2; s <= nodes+1; s++ {
			isRefused(t, n, s, s, full(n), api.ErrEnds)
			isRefused(t, n, s, -1, full(n), api.ErrEnds)
			isRefused(t, n, nodes, s, full(n), api.ErrEnds)
		}
	}
}

func TestWhatIsNoFlow(t *testing.T) {
	for _, n := range []api.Net{
		line(2, 0, 5), line(2, 5, 0), line(50, twenty, 3), ring(3, 4, 4), {Nodes: 2, Arcs: someArcs(200)},
		{Nodes: 3, Arcs: []api.Arc{arc(0, 1, 2, 1), {From: 1, To: 2, Time: 3}, arc(2, 2, 7, 0)}},
	} {
		for _, f := range noFlows(n) {
			isRefused(t, n, 0, n.Nodes-1, f, api.ErrFlow)
			isRefused(t, n, n.Nodes-1, 0, f, api.ErrFlow)
			isRefused(t, n, 0, 0, f, api.ErrEnds)
			isRefused(t, n, -1, 1, f, api.ErrEnds)
		}
	}
	for _, nodes := range []int{2, 50} {
		n := api.Net{Nodes: nodes}
		isRefused(t, n, 0, 1, []int{0}, api.ErrFlow)
		isSplit(t, n, 0, 1, nil, nil, nil)
		isSplit(t, n, 0, 1, []int{}, nil, nil)
	}
}

func TestFlowsThatAreNotBalanced(t *testing.T) {
	n := line(4, 5, 1)
	for _, f := range [][]int{{2, 1, 1}, {1, 2, 2}, {1, 1, 0}, {0, 0, 1}, {0, 3, 0}, {5, 4, 5}} {
		isRefused(t, n, 0, 3, f, api.ErrFlow)
		isRefused(t, n, 3, 0, f, api.ErrFlow)
	}
	// Between other ends, some of them are balanced.
	isSplit(t, n, 1, 2, []int{0, 3, 0}, []api.Chain{chain(3, 1)}, nil)
	isSplit(t, n, 0, 2, []int{1, 1, 0}, []api.Chain{chain(1, 0, 1)}, nil)
	isRefused(t, n, 2, 0, []int{1, 1, 0}, api.ErrFlow)
	for _, node := range []int{1, 24, 48} {
		n := line(50, 2, 1)
		f := slices.Repeat([]int{1}, 49)
		isSplit(t, n, 0, 49, f, []api.Chain{chain(1, up(0, 48)...)}, nil)
		f[node] = 2
		isRefused(t, n, 0, 49, f, api.ErrFlow)
		n.Arcs = append(n.Arcs, arc(node, (node+1)%50, 1, 0), arc((node+1)%50, node, 1, 7))
		isSplit(t, n, 0, 49, append(f, 0, 1), []api.Chain{chain(1, up(0, 48)...)}, []api.Chain{chain(1, node, 50)})
		isRefused(t, n, 0, 49, append(f, 1, 0), api.ErrFlow)
	}
}

func TestValueBelowZero(t *testing.T) {
	for _, nodes := range []int{2, 3, 50} {
		n := line(nodes, twenty, 2)
		for _, k := range []int{1, 2, twenty} {
			f := slices.Repeat([]int{k}, nodes-1)
			isSplit(t, n, 0, nodes-1, f, []api.Chain{chain(k, up(0, nodes-2)...)}, nil)
			isRefused(t, n, nodes-1, 0, f, api.ErrFlow)
			// Behind what is wrong with the ends.
			isRefused(t, n, nodes-1, nodes-1, f, api.ErrEnds)
			isRefused(t, n, nodes, 0, f, api.ErrEnds)
			isRefused(t, n, nodes-1, -1, f, api.ErrEnds)
		}
		isSplit(t, n, nodes-1, 0, zero(n), nil, nil)
	}
	// What goes forth and back: the value is 1, 0 and -1.
	both := api.Net{Nodes: 2, Arcs: []api.Arc{arc(0, 1, 3, 10), arc(1, 0, 3, 1)}}
	isSplit(t, both, 0, 1, []int{3, 2}, []api.Chain{chain(1, 0)}, []api.Chain{chain(2, 0, 1)})
	isSplit(t, both, 0, 1, []int{2, 2}, nil, []api.Chain{chain(2, 0, 1)})
	isRefused(t, both, 0, 1, []int{2, 3}, api.ErrFlow)
	isRefused(t, both, 0, 1, []int{0, 3}, api.ErrFlow)
	isSplit(t, both, 1, 0, []int{2, 3}, []api.Chain{chain(1, 1)}, []api.Chain{chain(2, 0, 1)})
}

// Edges.

func TestOneNode(t *testing.T) {
	for _, n := range []api.Net{{Nodes: 1}, {Nodes: 1, Arcs: []api.Arc{}}, {Nodes: 1, Arcs: someArcs(200)}} {
		for _, s := range []int{0, 1, -1, most, least} {
			for _, f := range [][]int{zero(n), full(n), {-1}} {
				isRefused(t, n, s, 0, f, api.ErrEnds)
				isRefused(t, n, 0, s, f, api.ErrEnds)
				isRefused(t, n, s, s, f, api.ErrEnds)
			}
		}
		isLengths(t, n, nil)
		isLengths(t, n, []api.Chain{{}}, 0)
		areLengths(t, n, []api.Chain{chain(1, 0, 0), chain(2, 199)})
	}
}

func TestNoArc(t *testing.T) {
	for _, nodes := range []int{2, 3, 50} {
		for _, arcs := range [][]api.Arc{nil, {}} {
			n := api.Net{Nodes: nodes, Arcs: arcs}
			isSplit(t, n, 0, nodes-1, nil, nil, nil)
			isSplit(t, n, nodes-1, 0, []int{}, nil, nil)
			isLengths(t, n, []api.Chain{{}, {N: 5}}, 0, 0)
			isNoLengths(t, n, []api.Chain{chain(1, 0)}, api.ErrArg)
			isNoLengths(t, n, []api.Chain{chain(1, -1)}, api.ErrArg)
		}
	}
}

func TestTheZeroFlow(t *testing.T) {
	for _, w := range weaves() {
		isSplit(t, w.Net, w.s, w.sink, zero(w.Net), nil, nil)
		isSplit(t, w.Net, w.sink, w.s, zero(w.Net), nil, nil)
		if g, err := Clean(w.Net, w.s, w.sink, zero(w.Net)); !slices.Equal(g, zero(w.Net)) || err != api.OK {
			t.Errorf("M3: %v: %v %d", w.Net, g, err)
		}
	}
}

func TestArcsFromANodeToItself(t *testing.T) {
	n := api.Net{Nodes: 3, Arcs: []api.Arc{arc(0, 0, 9, 3), arc(0, 1, 5, 2), arc(1, 1, 9, 1), arc(2, 2, 9, twenty), arc(1, 2, 4, 3), arc(0, 0, twenty, 0), arc(2, 2, 1, 0), arc(1, 1, 7, 0)}}
	isSplit(t, n, 0, 2, []int{2, 4, 3, 0, 4, 7, 1, 3}, []api.Chain{chain(4, 1, 4)}, []api.Chain{chain(2, 0), chain(3, 2), chain(7, 5), chain(1, 6), chain(3, 7)})
	isSplit(t, n, 0, 2, []int{0, 0, 0, 9, 0, twenty, 0, 0}, nil, []api.Chain{chain(9, 3), chain(twenty, 5)})
	for _, node := range []int{0, 1, 49} {
		loops := api.Net{Nodes: 50, Arcs: slices.Repeat([]api.Arc{arc(node, node, twenty, 1)}, 199)}
		loops.Arcs = append(loops.Arcs, arc(0, 49, 6, 3))
		chains, cycles := testSplit(t, loops, 0, 49, full(loops))
		if len(cycles) != 199 || !areChains(chains, []api.Chain{chain(6, 199)}) {
			t.Errorf("M1: %v, %d cycles", chains, len(cycles))
		}
	}
}

func TestSeveralArcsBetweenTheSameNodes(t *testing.T) {
	n := api.Net{Nodes: 3, Arcs: []api.Arc{arc(0, 1, 3, 6), arc(0, 1, 2, 4), arc(1, 0, 5, 3), arc(0, 1, 0, 0), arc(0, 1, 2, 4), arc(1, 0, 1, 0), arc(1, 2, 9, 1), arc(1, 2, 9, 0), arc(2, 1, 9, 0)}}
	isSplit(t, n, 0, 2, []int{3, 2, 4, 0, 1, 1, 2, 1, 2}, []api.Chain{chain(1, 4, 7)}, []api.Chain{chain(3, 0, 2), chain(1, 1, 2), chain(1, 1, 5), chain(2, 6, 8)})
	isSplit(t, n, 0, 1, []int{3, 2, 0, 0, 1, 1, 2, 1, 3}, []api.Chain{chain(2, 0), chain(2, 1), chain(1, 4)}, []api.Chain{chain(1, 0, 5), chain(2, 6, 8), chain(1, 7, 8)})
	n.Nodes, n.Arcs = 2, n.Arcs[:6]
	allFlows(n, func(f []int) {
		testAny(t, n, 0, 1, f)
		testAny(t, n, 1, 0, f)
	})
}

func TestCapsAtTheEdges(t *testing.T) {
	for _, width := range []int{0, 1, 2, 7, twenty - 1, twenty} {
		for _, nodes := range []int{2, 3, 50} {
			n := ring(nodes, width, 2)
			f := full(n)
			f[nodes-1] = 0
			var chains, cycles []api.Chain
			if width > 0 {
				chains = []api.Chain{chain(width, up(0, nodes-2)...)}
				cycles = []api.Chain{chain(width, up(0, nodes-1)...)}
			}
			isSplit(t, n, 0, nodes-1, f, chains, nil)
			isSplit(t, n, 0, nodes-1, full(n), nil, cycles)
			f[0]++
			isRefused(t, n, 0, nodes-1, f, api.ErrFlow)
		}
		isRefused(t, line(2, twenty+1, 0), 0, 1, []int{1}, api.ErrLimit)
		isRefused(t, line(2, -1, 0), 0, 1, []int{0}, api.ErrNet)
	}
}

func TestTimesMakeNoDifferenceToSplit(t *testing.T) {
	next := numbers(132)
	for _, w := range weaves() {
		chains, cycles := testSplit(t, w.Net, w.s, w.sink, w.flow)
		for _, time := range []int{0, 1, twenty} {
			n := w.Net
			n.Hold = !n.Hold
			n.Arcs = slices.Clone(n.Arcs)
			for place := range n.Arcs {
				n.Arcs[place].Time = time
				if n.Arcs[place].Cap < twenty {
					n.Arcs[place].Cap += next(2)
				}
			}
			isSplit(t, n, w.s, w.sink, w.flow, chains, cycles)
		}
	}
}

func TestTheLongestChains(t *testing.T) {
	n := ring(50, twenty, twenty)
	f := full(n)
	f[49] = 0
	chains, _ := testSplit(t, n, 0, 49, f)
	isLengths(t, n, chains, 49*twenty)
	_, cycles := testSplit(t, n, 0, 49, full(n))
	isLengths(t, n, cycles, 50*twenty)
	if k := costAnew(n, full(n)); k != 50*twenty*twenty {
		t.Errorf("it costs %d", k)
	}
	// Beyond what Split returns, a chain may have any number of arcs.
	for _, length := range []int{51, 200, 201, 4095, 4097, 1 << 20} {
		isLengths(t, n, []api.Chain{chain(1, slices.Repeat([]int{49}, length)...)}, length*twenty)
		isLengths(t, n, []api.Chain{{}, {Arcs: slices.Repeat([]int{3}, length)}, chain(1, 7)}, 0, length*twenty, twenty)
		l := slices.Repeat([]int{3}, length)
		for _, place := range []int{0, length / 2, length - 1} {
			l[place] = 50
			isNoLengths(t, n, []api.Chain{chain(1, l...)}, api.ErrArg)
			l[place] = 3
		}
	}
	isLengths(t, n, slices.Repeat([]api.Chain{chain(1, 0, 1)}, 5000), slices.Repeat([]int{2 * twenty}, 5000)...)
}

// M2.

func TestLengths(t *testing.T) {
	n := api.Net{Nodes: 3, Arcs: []api.Arc{arc(0, 1, 3, 1), arc(1, 2, 0, 20), arc(2, 1, 3, 300), arc(1, 1, 2, 4000), arc(0, 2, 2, 50000), arc(0, 2, 2, 0)}}
	isLengths(t, n, nil)
	isLengths(t, n, []api.Chain{})
	isLengths(t, n, []api.Chain{{}, {Arcs: []int{}, N: 7}, {Arcs: nil, N: -1}}, 0, 0, 0)
	isLengths(t, n, []api.Chain{chain(1, 0, 1), chain(2, 4), chain(0, 3), chain(1, 5)}, 21, 50000, 4000, 0)
	// Arcs that do not follow each other, and arcs that come again.
	isLengths(t, n, []api.Chain{chain(1, 1, 0), chain(1, 4, 0, 4), chain(1, 2, 2, 2, 2), chain(1, 5, 4, 3, 2, 1, 0)}, 21, 100001, 1200, 54321)
	// Amounts make no difference.
	for _, amount := range []int{0, 1, -1, twenty + 1, most, least} {
		isLengths(t, n, []api.Chain{chain(amount, 0, 1), chain(amount)}, 21, 0)
	}
}

func TestArcsThatDoNotExist(t *testing.T) {
	n := line(4, 5, 7)
	for _, far := range []int{-1, -2, -3, -4, 3, 4, 6, 199, 200, 1 << 32, -1 << 32, most, least} {
		for _, l := range [][]int{{far}, {far, 0}, {0, far}, {0, 1, 2, far}, {0, far, 2}, {far, far}} {
			for _, amount := range []int{0, 1, -1} {
				wrong := chain(amount, l...)
				isNoLengths(t, n, []api.Chain{wrong}, api.ErrArg)
				isNoLengths(t, n, []api.Chain{wrong, chain(1, 0)}, api.ErrArg)
				isNoLengths(t, n, []api.Chain{chain(1, 0), wrong}, api.ErrArg)
				isNoLengths(t, n, []api.Chain{{}, chain(1, 0, 1, 2), wrong, {}}, api.ErrArg)
			}
		}
		isNoLengths(t, api.Net{Nodes: 4}, []api.Chain{chain(1, far)}, api.ErrArg)
	}
	isLengths(t, n, []api.Chain{chain(1, 2, 0)}, 14)
}

func TestLengthsOfManyChains(t *testing.T) {
	next := numbers(133)
	right, wrong := 0, 0
	for _, w := range weaves() {
		for range 4 {
			var l []api.Chain
			for range next(6) {
				var arcs []int
				for range next(9) {
					if arcs = append(arcs, next(len(w.Arcs)+1)); next(10) > 0 {
						arcs[len(arcs)-1] = arcs[len(arcs)-1] % max(1, len(w.Arcs))
					}
				}
				l = append(l, chain(next(9)-4, arcs...))
			}
			areLengths(t, w.Net, l)
			if _, err := Lengths(w.Net, l); err == api.OK {
				right++
			} else {
				wrong++
			}
		}
	}
	if right < 100 || wrong < 30 {
		t.Errorf("only %d lists that are right, and %d others", right, wrong)
	}
}

// M4.

func TestCleanCostsNoMore(t *testing.T) {
	less, same := 0, 0
	for _, w := range weaves() {
		g, err := Clean(w.Net, w.s, w.sink, w.flow)
		after, errAfter := static.Cost(w.Net, g)
		before, errBefore := static.Cost(w.Net, w.flow)
		if after > before || err != api.OK || errAfter != api.OK || errBefore != api.OK {
			t.Fatalf("M4: %v of %v costs %d, before %d: %d %d %d", g, w.Net, after, before, err, errAfter, errBefore)
		}
		_, cycles, _ := Split(w.Net, w.s, w.sink, w.flow)
		// What is saved is what the cycles cost.
		saved := 0
		lengths, _ := Lengths(w.Net, cycles)
		for i, c := range cycles {
			saved += c.N * lengths[i]
		}
		if before-after != saved {
			t.Fatalf("M4: %v of %v costs %d, before %d, the cycles %d", g, w.Net, after, before, saved)
		}
		if after < before {
			less++
		} else {
			same++
		}
	}
	if less < 50 || same < 50 {
		t.Errorf("only %d that cost less, and %d others", less, same)
	}
}

func TestCleanLeavesChainsAsTheyAre(t *testing.T) {
	changed := 0
	for _, w := range weaves() {
		chains, cycles, _ := Split(w.Net, w.s, w.sink, w.flow)
		g, _ := Clean(w.Net, w.s, w.sink, w.flow)
		isSplit(t, w.Net, w.s, w.sink, g, chains, nil)
		if len(cycles) > 0 {
			changed++
			if slices.Equal(g, w.flow) {
				t.Errorf("M3: %v of %v is as it was, but for %v", g, w.Net, cycles)
			}
		}
		if value, _ := static.Check(w.Net, w.s, w.sink, w.flow); value == 0 && !slices.Equal(g, zero(w.Net)) {
			t.Errorf("M3: %v of %v: %v", w.flow, w.Net, g)
		}
	}
	if changed < 50 {
		t.Errorf("only %d flows with cycles", changed)
	}
}

func TestNetsWithoutCycles(t *testing.T) {
	// Where arcs lead only to nodes behind, there is no cycle, and Clean changes
	// nothing.
	next := numbers(134)
	split := 0
	for range 120 {
		w := weave(next, mixed(next, 2+next(49), 150, 2), 20, 0)
		chains, cycles := testSplit(t, w.Net, w.s, w.sink, w.flow)
		split += len(chains)
		g, err := Clean(w.Net, w.s, w.sink, w.flow)
		if len(cycles) != 0 || !slices.Equal(g, w.flow) || err != api.OK {
			t.Errorf("M3: %v of %v: %v %d, %v", w.flow, w.Net, g, err, cycles)
		}
		// Each chain is a path that can be pushed back.
		for _, c := range chains {
			var back []api.Step
			for _, i := range slices.Backward(c.Arcs) {
				back = append(back, api.Step{Arc: i, Back: true})
			}
			if g, err = static.Push(w.Net, g, back, c.N); err != api.OK {
				t.Fatalf("M4: %v of %v: %d", c, w.Net, err)
			}
		}
		if !slices.Equal(g, zero(w.Net)) {
			t.Errorf("M4: %v of %v leaves %v", w.flow, w.Net, g)
		}
	}
	if split < 150 {
		t.Errorf("only %d chains", split)
	}
}

// The words: the path is that of layer 8.

func TestChainsAreThePathsOfLayer8(t *testing.T) {
	for _, w := range weaves() {
		g, _ := Clean(w.Net, w.s, w.sink, w.flow)
		chains, _, _ := Split(w.Net, w.s, w.sink, w.flow)
		left := w.Net
		for i, c := range append(chains, api.Chain{}) {
			left.Arcs = slices.Clone(left.Arcs)
			for place := range left.Arcs {
				left.Arcs[place].Cap = g[place]
			}
			steps, ok, err := level.Path(left, zero(left), w.s, w.sink)
			var arcs []int
			for _, x := range steps {
				arcs = append(arcs, x.Arc)
			}
			if !slices.Equal(arcs, c.Arcs) || ok != (i < len(chains)) || err != api.OK {
				t.Fatalf("M1: chain %d of %v of %v: %v, want %v %v %d", i, w.flow, w.Net, c, arcs, ok, err)
			}
			for _, place := range c.Arcs {
				g[place] -= c.N
			}
		}
	}
}

// Ways: the struct keeps the rest, from which its methods collect.

func TestTheRestIsKept(t *testing.T) {
	for _, w := range weaves() {
		left := whole(w.Net, w.flow)
		rests := func() []int { return full(left.Net) }
		if !slices.Equal(rests(), w.flow) {
			t.Fatalf("M1: the rest of %v is %v", w.flow, rests())
		}
		cycles := left.cycles()
		if g, _ := Clean(w.Net, w.s, w.sink, w.flow); !slices.Equal(rests(), g) {
			t.Fatalf("M1: behind the cycles, the rest of %v is %v, want %v", w.flow, rests(), g)
		}
		chains := left.chains(w.s, w.sink)
		if slices.Max(append(rests(), 0)) != 0 || len(left.cycles()) != 0 || len(left.chains(w.s, w.sink)) != 0 {
			t.Fatalf("M1: in the end, the rest of %v is %v", w.flow, rests())
		}
		isSplit(t, w.Net, w.s, w.sink, w.flow, chains, cycles)
	}
}

// R3, R4.

func TestArgumentsStay(t *testing.T) {
	all := append(weaves(), woven{}, woven{Net: api.Net{Nodes: 51, Arcs: someArcs(3)}}, woven{Net: api.Net{Nodes: 1, Arcs: someArcs(202)}},
		woven{Net: api.Net{Nodes: 2, Arcs: []api.Arc{{To: 1}, {To: 2}, {Cap: 1}, {Cap: twenty + 1}}}})
	for i, w := range all {
		chains, cycles, _ := Split(w.Net, w.s, w.sink, w.flow)
		l := append(slices.Concat(chains, cycles), chain(3, 0, 1), chain(4, -1))
		for _, f := range [][]int{w.flow, zero(w.Net), full(w.Net), {-1, 3}} {
			arcs, flow := slices.Clone(w.Arcs), slices.Clone(f)
			var before []api.Chain
			for _, c := range l {
				before = append(before, chain(c.N, slices.Clone(c.Arcs)...))
			}
			shorter := w.Net
			shorter.Arcs = w.Arcs[:len(w.Arcs)/2]
			less := f[:min(len(f), len(w.Arcs)/2)]
			for _, e := range [][2]int{{w.s, w.sink}, {w.sink, w.s}, {0, 0}, {-1, most}} {
				Split(w.Net, e[0], e[1], f)
				Clean(w.Net, e[0], e[1], f)
				Split(shorter, e[0], e[1], less)
				Clean(shorter, e[0], e[1], less)
			}
			for _, m := range [][]api.Chain{l, l[:len(l)-1], l[:len(l)-2], l[:1], nil} {
				Lengths(w.Net, m)
				Lengths(shorter, m)
			}
			if !slices.Equal(w.Arcs, arcs) || !slices.Equal(f, flow) || !areChains(l, before) {
				t.Fatalf("R3: network %d: %v %v %v became %v %v %v", i, arcs, flow, before, w.Arcs, f, l)
			}
		}
	}
}

func TestResultsAreApart(t *testing.T) {
	n := api.Net{Nodes: 4, Arcs: []api.Arc{arc(0, 1, 9, 1), arc(1, 2, 9, 1), arc(2, 0, 9, 1), arc(2, 3, 9, 1), arc(0, 3, 9, 1), arc(1, 1, 9, 1)}}
	f := []int{5, 5, 2, 3, 1, 4, 77}[:6]
	wantChains, wantCycles := []api.Chain{chain(1, 4), chain(3, 0, 1, 3)}, []api.Chain{chain(2, 0, 1, 2), chain(4, 5)}
	for range 3 {
		chains, cycles, _ := Split(n, 0, 3, f)
		all, want := slices.Concat(chains, cycles), slices.Concat(wantChains, wantCycles)
		for i, c := range all {
			if c.N != want[i].N || !slices.Equal(c.Arcs, want[i].Arcs) {
				t.Fatalf("R3: a change of the ones before made chain %d %v", i, c)
			}
			for j := range c.Arcs[:cap(c.Arcs)] {
				c.Arcs[:cap(c.Arcs)][j] = -7
			}
		}
		g, _ := Clean(n, 0, 3, f)
		lengths, _ := Lengths(n, wantChains)
		for _, l := range [][]int{g, lengths} {
			for i := range l[:cap(l)] {
				l[:cap(l)][i] = -7
			}
		}
		for _, l := range [][]api.Chain{chains, cycles} {
			for i := range l[:cap(l)] {
				l[:cap(l)][i] = chain(-7, -7)
			}
		}
		if !slices.Equal(f[:7], []int{5, 5, 2, 3, 1, 4, 77}) || n.Arcs[0] != arc(0, 1, 9, 1) {
			t.Fatalf("R3: a change of the results made the flow %v, the arcs %v", f[:7], n.Arcs)
		}
		isSplit(t, n, 0, 3, f, wantChains, wantCycles)
		isLengths(t, n, wantChains, 1, 3)
	}
}

func TestEarlierCallsMakeNoDifference(t *testing.T) {
	for _, w := range weaves() {
		chains, cycles, err := Split(w.Net, w.s, w.sink, w.flow)
		g, errClean := Clean(w.Net, w.s, w.sink, w.flow)
		isRefused(t, api.Net{Nodes: 51}, 0, 1, nil, api.ErrLimit)
		isRefused(t, w.Net, 0, 0, w.flow, api.ErrEnds)
		isNoLengths(t, w.Net, []api.Chain{chain(1, 0), chain(1, 200)}, api.ErrArg)
		isSplit(t, ring(9, 5, 1), 3, 8, slices.Repeat([]int{2}, 9), nil, []api.Chain{chain(2, up(0, 8)...)})
		again, cyclesAgain, errAgain := Split(w.Net, w.s, w.sink, w.flow)
		h, errCleanAgain := Clean(w.Net, w.s, w.sink, w.flow)
		if !reflect.DeepEqual(chains, again) || !reflect.DeepEqual(cycles, cyclesAgain) || err != errAgain || !slices.Equal(g, h) || errClean != errCleanAgain {
			t.Errorf("R4: %v of %v: %v %v %d, before %v %v %d", w.flow, w.Net, again, cyclesAgain, errAgain, chains, cycles, err)
		}
	}
}

func TestFlowWithoutNegativeCyclesMayHaveCyclesWithoutTime(t *testing.T) {
	// A cycle that takes no time is removed too, at the same cost.
	n := api.Net{Nodes: 3, Arcs: []api.Arc{arc(0, 1, 4, 0), arc(1, 0, 4, 0), arc(1, 2, 4, 3)}}
	f := []int{4, 3, 1}
	if ok, err := cost.Free(n, f); !ok || err != api.OK {
		t.Errorf("K4: %v %d", ok, err)
	}
	isSplit(t, n, 0, 2, f, []api.Chain{chain(1, 0, 2)}, []api.Chain{chain(3, 0, 1)})
	if g, err := Clean(n, 0, 2, f); !slices.Equal(g, []int{1, 0, 1}) || err != api.OK || costAnew(n, g) != costAnew(n, f) {
		t.Errorf("M3: %v %d", g, err)
	}
}

func TestExamples(t *testing.T) {
	n := api.Net{Nodes: 3, Arcs: []api.Arc{{From: 0, To: 1, Cap: 2}, {From: 1, To: 2, Cap: 2}, {From: 2, To: 1, Cap: 2}}}
	isSplit(t, n, 0, 2, []int{1, 2, 1}, []api.Chain{chain(1, 0, 1)}, []api.Chain{chain(1, 1, 2)})
	if g, err := Clean(n, 0, 2, []int{1, 2, 1}); !slices.Equal(g, []int{1, 1, 0}) || err != api.OK {
		t.Errorf("M3: %v %d", g, err)
	}
}
