package cost

import (
	"math"
	"slices"
	"testing"

	"ebbtide/adj"
	"ebbtide/api"
	"ebbtide/static"
)

const (
	most  = math.MaxInt64
	least = math.MinInt64
	// twenty is what an arc's Cap and Time may be at most.
	twenty = 1048576
	// forty is how far from 0 the numbers of Tight may be.
	forty = 1099511627776
)

// numbers returns a function that returns one number after the other, the same
// ones in each run.
func numbers(seed uint64) func(below int) int {
	return func(below int) int {
		seed = seed*6364136223846793005 + 1442695040888963407
		return int(seed>>33) % below
	}
}

// arc returns an arc with a Cap of 1.
func arc(from, to, time int) api.Arc {
	return api.Arc{From: from, To: to, Cap: 1, Time: time}
}

// The plain ways of working out what the chapter asks for, each by another
// method than the package's. The networks and flows that they are given are
// right.

// way is a step with room.
type way struct{ from, to, time int }

// waysOf returns the steps with room: first those along, then those back.
func waysOf(n api.Net, f []int) []way {
	var along, back []way
	for i, a := range n.Arcs {
		if a.Cap-f[i] > 0 {
			along = append(along, way{a.From, a.To, a.Time})
		}
		if f[i] > 0 {
			back = append(back, way{a.To, a.From, 0 - a.Time})
		}
	}
	return append(along, back...)
}

// trial tries all paths from a node that come to no node twice.
type trial struct {
	ways  []way
	first int
	been  [50]bool
	times [50]int // the least time to each node, or most
	round int     // the least time of a path back to the first node, or most
}

// try goes on from a node that the path so far came to in that time.
func (x *trial) try(node, time int) {
	x.been[node] = true
	x.times[node] = min(x.times[node], time)
	for _, w := range x.ways {
		if w.from == node && w.to == x.first {
			x.round = min(x.round, time+w.time)
		}
		if w.from == node && !x.been[w.to] {
			x.try(w.to, time+w.time)
		}
	}
	x.been[node] = false
}

// tried returns the trial of all paths from a node.
func tried(ways []way, first int) *trial {
	x := &trial{ways: ways, first: first, round: most}
	for node := range x.times {
		x.times[node] = most
	}
	x.try(first, 0)
	return x
}

// between is the least time of a path from each node to each, or most if there is
// none. A node on a negative cycle has a time to itself below 0; no other time
// that such a cycle makes less and less counts.
type between [50][50]int

// betweenAll returns the least times by allowing one node after the other on the
// paths.
func betweenAll(nodes int, ways []way) *between {
	out := new(between)
	for a := range nodes {
		for b := range nodes {
			out[a][b] = most
		}
		out[a][a] = 0
	}
	for _, w := range ways {
		out[w.from][w.to] = min(out[w.from][w.to], w.time)
	}
	for over := range nodes {
		for a := range nodes {
			for b := range nodes {
				if out[a][over] != most && out[over][b] != most {
					// So far below 0 times grow no further.
					out[a][b] = max(-1<<50, min(out[a][b], out[a][over]+out[over][b]))
				}
			}
		}
	}
	return out
}

// onCycle reports whether a node is on a negative cycle.
func (x *between) onCycle(node int) bool {
	return x[node][node] < 0
}

// farFrom returns what Far should from a node.
func (x *between) farFrom(s, nodes int) (d []int, is []bool, e api.Errno) {
	d, is = make([]int, nodes), make([]bool, nodes)
	for node := range nodes {
		if x[s][node] != most {
			if x.onCycle(node) {
				return nil, nil, api.ErrCycle
			}
			d[node], is[node] = x[s][node], true
		}
	}
	return d, is, api.OK
}

// isFree reports whether no node is on a negative cycle.
func (x *between) isFree(nodes int) bool {
	for node := range nodes {
		if x.onCycle(node) {
			return false
		}
	}
	return true
}

// tightAnew reports whether the numbers are tight, arc by arc: a step along an arc
// takes its numbers at most as far apart as its Time, one back at least so far.
func tightAnew(n api.Net, f, p []int) bool {
	for i, a := range n.Arcs {
		apart := p[a.To] - p[a.From]
		if f[i] < a.Cap && apart > a.Time || f[i] > 0 && apart < a.Time {
			return false
		}
	}
	return true
}

// costAnew returns the cost of a flow.
func costAnew(n api.Net, f []int) int {
	sum := 0
	for i, k := range f {
		sum += n.Arcs[i].Time * k
	}
	return sum
}

// What fails unless a call answers as the chapter asks.

// isFarRefused fails unless Far returns the error and nothing else.
func isFarRefused(t *testing.T, n api.Net, f []int, s int, want api.Errno) {
	t.Helper()
	if d, is, err := Far(n, f, s); len(d) != 0 || len(is) != 0 || err != want {
		t.Errorf("K1: %d nodes, %d arcs, flow of %d, from %d: %v %v %d, want %d", n.Nodes, len(n.Arcs), len(f), s, d, is, err, want)
	}
}

// isTightRefused fails unless Tight returns the error and false.
func isTightRefused(t *testing.T, n api.Net, f, p []int, want api.Errno) {
	t.Helper()
	if ok, err := Tight(n, f, p); ok || err != want {
		t.Errorf("K2: %d nodes, %d arcs, flow of %d, %d numbers: %v %d, want %d", n.Nodes, len(n.Arcs), len(f), len(p), ok, err, want)
	}
}

// isFreeRefused fails unless Free returns the error and false.
func isFreeRefused(t *testing.T, n api.Net, f []int, want api.Errno) {
	t.Helper()
	if ok, err := Free(n, f); ok || err != want {
		t.Errorf("K3: %d nodes, %d arcs, flow of %d: %v %d, want %d", n.Nodes, len(n.Arcs), len(f), ok, err, want)
	}
}

// none is in a list of times where a node is not reached.
const none = least

// isFar fails unless Far returns those times, or that a node is not reached.
func isFar(t *testing.T, n api.Net, f []int, s int, want ...int) {
	t.Helper()
	d, is, err := Far(n, f, s)
	if len(d) != len(want) || len(is) != len(want) || err != api.OK {
		t.Fatalf("K1: %v of %v from %d: %v %v %d, want %v", f, n, s, d, is, err, want)
	}
	for node, time := range want {
		if is[node] != (time != none) || is[node] && d[node] != time || !is[node] && d[node] != 0 {
			t.Errorf("K1: %v of %v from %d: %v %v, want %v", f, n, s, d, is, want)
		}
	}
}

// isTight fails unless Tight answers so.
func isTight(t *testing.T, n api.Net, f, p []int, want bool) {
	t.Helper()
	if ok, err := Tight(n, f, p); ok != want || err != api.OK {
		t.Errorf("K2: %v of %v with %v: %v %d, want %v", f, n, p, ok, err, want)
	}
}

// isFree fails unless Free answers so.
func isFree(t *testing.T, n api.Net, f []int, want bool) {
	t.Helper()
	if ok, err := Free(n, f); ok != want || err != api.OK {
		t.Errorf("K3: %v of %v: %v %d, want %v", f, n, ok, err, want)
	}
}

// testTight holds Tight against K2 for numbers that are right.
func testTight(t *testing.T, n api.Net, f, p []int) bool {
	t.Helper()
	want := tightAnew(n, f, p)
	isTight(t, n, f, p, want)
	return want
}

// testFar holds what Far returns against what it should.
func testFar(t *testing.T, n api.Net, f []int, s int, d []int, is []bool, want api.Errno) {
	t.Helper()
	got, gotIs, err := Far(n, f, s)
	if !slices.Equal(got, d) || !slices.Equal(gotIs, is) || err != want {
		t.Fatalf("K1: %v of %v from %d: %v %v %d, want %v %v %d", f, n, s, got, gotIs, err, d, is, want)
	}
	if err == api.OK {
		testFarIsTight(t, n, f, got, gotIs)
	}
}

// testFarIsTight holds the times that Far returned against K4: they are tight
// among the nodes that are reached.
func testFarIsTight(t *testing.T, n api.Net, f, d []int, is []bool) {
	t.Helper()
	if !slices.Contains(is, false) {
		isTight(t, n, f, d, true)
		isFree(t, n, f, true)
	}
	for _, w := range waysOf(n, f) {
		if is[w.from] && (!is[w.to] || d[w.to] > d[w.from]+w.time) {
			t.Fatalf("K4: %v of %v: %v %v are not tight from %d to %d", f, n, d, is, w.from, w.to)
		}
	}
}

// testAll holds Far from all nodes and Free against K1 and K3, and returns whether
// the flow is free, and how often Far had an error.
func testAll(t *testing.T, n api.Net, f []int) (free bool, cycles int) {
	t.Helper()
	all := betweenAll(n.Nodes, waysOf(n, f))
	for s := range n.Nodes {
		d, is, err := all.farFrom(s, n.Nodes)
		testFar(t, n, f, s, d, is, err)
		if err != api.OK {
			cycles++
		}
	}
	free = all.isFree(n.Nodes)
	isFree(t, n, f, free)
	return free, cycles
}

// testAllTried holds Far from all nodes and Free against K1 and K3 by trying all
// paths and cycles.
func testAllTried(t *testing.T, n api.Net, f []int) (free bool) {
	t.Helper()
	var all []*trial
	for s := range n.Nodes {
		all = append(all, tried(waysOf(n, f), s))
	}
	for s, x := range all {
		d, is, err := make([]int, n.Nodes), make([]bool, n.Nodes), api.OK
		for node := range n.Nodes {
			if x.times[node] == most {
				continue
			}
			d[node], is[node] = x.times[node], true
			if all[node].round < 0 {
				err = api.ErrCycle
			}
		}
		if err != api.OK {
			d, is = nil, nil
		}
		testFar(t, n, f, s, d, is, err)
	}
	free = !slices.ContainsFunc(all, func(x *trial) bool { return x.round < 0 })
	isFree(t, n, f, free)
	return free
}

// Networks, flows and numbers to hold the calls against.

// someArcs returns so many arcs from 0 to itself.
func someArcs(n int) []api.Arc {
	l := make([]api.Arc, n)
	for i := range l {
		l[i] = api.Arc{Cap: i, Time: 2 * i}
	}
	return l
}

// line returns a network whose arcs lead from each node to the one after it, with
// that Time.
func line(nodes, time int) api.Net {
	n := api.Net{Nodes: nodes}
	for node := 1; node < nodes; node++ {
		n.Arcs = append(n.Arcs, arc(node-1, node, time))
	}
	return n
}

// ring returns a line with an arc from its last node to its first.
func ring(nodes, time int) api.Net {
	n := line(nodes, time)
	n.Arcs = append(n.Arcs, arc(nodes-1, 0, time))
	return n
}

// reordered returns the network and the flow with their arcs in another order.
func reordered(n api.Net, f []int, order []int) (api.Net, []int) {
	out, flow := api.Net{Nodes: n.Nodes, Hold: n.Hold}, []int{}
	for _, place := range order {
		out.Arcs, flow = append(out.Arcs, n.Arcs[place]), append(flow, f[place])
	}
	return out, flow
}

// backwards returns the places of so many arcs, the last one first.
func backwards(arcs int) []int {
	var l []int
	for place := arcs - 1; place >= 0; place-- {
		l = append(l, place)
	}
	return l
}

// shuffled returns the places of so many arcs in any order.
func shuffled(next func(below int) int, arcs int) []int {
	l := backwards(arcs)
	for place := range l {
		other := next(place + 1)
		l[place], l[other] = l[other], l[place]
	}
	return l
}

// mixed returns a network of that many nodes and arcs of all kinds.
func mixed(next func(below int) int, nodes, arcs int) api.Net {
	edges := []int{0, 1, 2, 3, 7, 1000, twenty - 1, twenty}
	n := api.Net{Nodes: nodes, Hold: next(2) == 0}
	for range arcs {
		n.Arcs = append(n.Arcs, api.Arc{From: next(nodes), To: next(nodes), Cap: edges[next(len(edges))], Time: edges[next(len(edges))]})
	}
	return n
}

// near returns a network whose arcs lead to nodes at most 3 further or before, and
// have Times below the given one.
func near(next func(below int) int, nodes, arcs, time int) api.Net {
	n := api.Net{Nodes: nodes, Hold: next(2) == 0}
	for range arcs {
		from := next(nodes)
		to := max(0, min(from-3+next(7), nodes-1))
		n.Arcs = append(n.Arcs, api.Arc{From: from, To: to, Cap: next(4), Time: next(time)})
	}
	return n
}

// nets returns networks that are right, the smallest and the greatest among
// them.
func nets() []api.Net {
	out := []api.Net{
		{Nodes: 1}, {Nodes: 1, Hold: true, Arcs: []api.Arc{}}, {Nodes: 1, Arcs: someArcs(1)}, {Nodes: 1, Arcs: someArcs(200)},
		{Nodes: 2}, {Nodes: 50}, {Nodes: 50, Arcs: someArcs(200)}, line(50, 0), line(50, 1), line(50, twenty), line(2, 1), ring(50, 0), ring(50, 7),
		{Nodes: 2, Arcs: []api.Arc{{To: 1, Cap: 7}, {To: 1, Cap: 2, Time: 5}, {To: 1, Cap: 2, Time: 5}, {To: 1}}},
		{Nodes: 2, Arcs: []api.Arc{{To: 1, Cap: 4, Time: 3}, {From: 1, Cap: 6, Time: 2}, {From: 1, To: 1, Cap: 1}}},
	}
	next := numbers(11)
	for nodes := 1; nodes <= 50; nodes++ {
		out = append(out, mixed(next, nodes, nodes), mixed(next, nodes, next(201)), near(next, nodes, 2*nodes, 2+next(9)), near(next, nodes, 200, 2+next(9)))
	}
	return out
}

// zero returns the flow of zeros.
func zero(n api.Net) []int {
	return make([]int, len(n.Arcs))
}

// full returns the flow in which each arc has as much as its Cap.
func full(n api.Net) []int {
	f := zero(n)
	for i, a := range n.Arcs {
		f[i] = a.Cap
	}
	return f
}

// anyFlow returns a flow with many arcs at 0 or at their Caps, which need not be
// balanced.
func anyFlow(next func(below int) int, n api.Net) []int {
	f := full(n)
	for i, width := range f {
		f[i] = []int{0, next(width + 1), width}[next(3)]
	}
	return f
}

// tightFlow returns a flow for which the numbers are tight: an arc is empty if its
// Time is more than its numbers are apart, and full if it is less.
func tightFlow(next func(below int) int, n api.Net, p []int) []int {
	f := zero(n)
	for i, a := range n.Arcs {
		switch apart := p[a.To] - p[a.From]; {
		case a.Time == apart:
			f[i] = next(a.Cap + 1)
		case a.Time < apart:
			f[i] = a.Cap
		}
	}
	return f
}

// someNumbers returns a number from 0 on for each node.
func someNumbers(next func(below int) int, nodes, below int) []int {
	p := make([]int, nodes)
	for node := range p {
		p[node] = next(below)
	}
	return p
}

// tightFlows returns flows for which some numbers are tight, far from each other
// and near.
func tightFlows(next func(below int) int, n api.Net) [][]int {
	var out [][]int
	for _, below := range []int{1, 3, 12, 2000, 2 * twenty} {
		out = append(out, tightFlow(next, n, someNumbers(next, n.Nodes, below)))
	}
	return out
}

// spoiled returns a flow in which one arc in ten or so differs.
func spoiled(next func(below int) int, n api.Net, f []int) []int {
	out := slices.Clone(f)
	for range (len(out) + 9) / 10 {
		place := next(len(out))
		out[place] = n.Arcs[place].Cap - out[place]
	}
	return out
}

// flows returns flows of all kinds.
func flows(next func(below int) int, n api.Net) [][]int {
	out := [][]int{zero(n), full(n), anyFlow(next, n)}
	for _, f := range tightFlows(next, n) {
		out = append(out, f, spoiled(next, n, f))
	}
	return out
}

// noFlows returns lists that are no flows of a network with arcs.
func noFlows(n api.Net) [][]int {
	good, last := full(n), len(n.Arcs)-1
	out := [][]int{nil, {}, good[:last], append(slices.Clone(good), 0), slices.Repeat(good, 2), make([]int, 1000)}
	for _, place := range []int{0, last / 2, last} {
		for _, k := range []int{-1, least, n.Arcs[place].Cap + 1, twenty + 1, 1 << 32, most} {
			f := slices.Clone(good)
			f[place] = k
			out = append(out, f)
		}
	}
	return out
}

// numbersAround returns numbers that may be nodes, and ones that are none.
func numbersAround(nodes int) []int {
	return []int{0, nodes - 1, nodes / 2, -1, nodes, nodes + 1, -nodes, 50, 51, 1 << 32, -1 << 32, most, least}
}

// listsAround returns lists that may be numbers of so many nodes, and ones that
// are none.
func listsAround(nodes int) [][]int {
	out := [][]int{nil, {}, make([]int, 1000)}
	for _, length := range []int{nodes - 1, nodes, nodes + 1} {
		for _, k := range []int{0, forty, -forty, forty + 1, -forty - 1, most, least} {
			p := make([]int, max(length, 0))
			if length > 0 {
				p[length-1] = k
			}
			out = append(out, p)
		}
	}
	return out
}

// products calls do with each list that has so many of the items.
func products[T any](items []T, length int, do func(l []T)) {
	l := make([]T, length)
	var fill func(place int)
	fill = func(place int) {
		if place == length {
			do(l)
			return
		}
		for _, x := range items {
			l[place] = x
			fill(place + 1)
		}
	}
	fill(0)
}

// loaded is an arc with its flow.
type loaded struct {
	api.Arc
	flow int
}

// loadedArcs returns all arcs among so many nodes with those Times, with room
// along, back, both ways, or none.
func loadedArcs(nodes int, times ...int) []loaded {
	var out []loaded
	for from := range nodes {
		for to := range nodes {
			for _, time := range times {
				for width := range 3 {
					for flow := range width + 1 {
						if width < 2 || flow == 1 {
							out = append(out, loaded{api.Arc{From: from, To: to, Cap: width, Time: time}, flow})
						}
					}
				}
			}
		}
	}
	return out
}

// netOf returns the network of the arcs, and their flow.
func netOf(nodes int, l []loaded) (api.Net, []int) {
	n, f := api.Net{Nodes: nodes}, []int{}
	for _, x := range l {
		n.Arcs, f = append(n.Arcs, x.Arc), append(f, x.flow)
	}
	return n, f
}

// K1 and K3 for many networks.

func TestManyNets(t *testing.T) {
	next := numbers(111)
	freeNets, others, reached, cycles := 0, 0, 0, 0
	for _, n := range nets() {
		for _, f := range flows(next, n) {
			free, errs := testAll(t, n, f)
			if free {
				freeNets++
			} else if others++; errs < n.Nodes {
				reached++
			}
			cycles += errs
		}
	}
	if freeNets < 1500 || others < 800 || reached < 500 || cycles < 10000 {
		t.Errorf("only %d free flows, %d others, %d of them with a node that comes to no negative cycle, and %d nodes that do", freeNets, others, reached, cycles)
	}
}

func TestAllSmallNets(t *testing.T) {
	free, others := 0, 0
	try := func(nodes, length int, items []loaded) {
		products(items, length, func(l []loaded) {
			n, f := netOf(nodes, l)
			if testAllTried(t, n, f) {
				free++
			} else {
				others++
			}
		})
	}
	for length := range 4 {
		try(1, length, loadedArcs(1, 0, 1, 5))
		try(2, length, loadedArcs(2, 0, 2))
	}
	for length := range 3 {
		try(3, length, loadedArcs(3, 0, 1, 3))
	}
	try(3, 3, loadedArcs(3, 2)[:40])
	if free < 10000 || others < 10000 {
		t.Errorf("only %d free flows and %d others", free, others)
	}
}

func TestManyMiddlingNets(t *testing.T) {
	next := numbers(112)
	free, others := 0, 0
	for range 1500 {
		nodes := 2 + next(5)
		n := near(next, nodes, nodes+next(nodes), 1+next(6))
		for _, f := range flows(next, n) {
			if testAllTried(t, n, f) {
				free++
			} else {
				others++
			}
			testAll(t, n, f)
		}
	}
	if free < 10000 || others < 2500 {
		t.Errorf("only %d free flows and %d others", free, others)
	}
}

// K1.

func TestFarOfEachNode(t *testing.T) {
	next := numbers(113)
	for _, n := range nets() {
		for _, f := range [][]int{zero(n), anyFlow(next, n)} {
			for _, s := range numbersAround(n.Nodes) {
				if s < 0 || s >= n.Nodes {
					// ErrArg comes ahead of ErrCycle.
					isFarRefused(t, n, f, s, api.ErrArg)
				}
			}
		}
	}
	for nodes := 1; nodes <= 50; nodes++ {
		n := line(nodes, 3)
		for s := range nodes {
			want := slices.Repeat([]int{none}, nodes)
			for node := s; node < nodes; node++ {
				want[node] = 3 * (node - s)
			}
			isFar(t, n, zero(n), s, want...)
			for node := range nodes {
				want[node] = none
				if node <= s {
					want[node] = -3 * (s - node)
				}
			}
			isFar(t, n, full(n), s, want...)
		}
		isFarRefused(t, n, zero(n), -1, api.ErrArg)
		isFarRefused(t, n, zero(n), nodes, api.ErrArg)
	}
}

func TestFarOfTheZeroFlowIsFastest(t *testing.T) {
	compared := 0
	for _, n := range nets() {
		open := api.Net{Nodes: n.Nodes}
		for _, a := range n.Arcs {
			if a.Cap > 0 {
				open.Arcs = append(open.Arcs, a)
			}
		}
		for s := range n.Nodes {
			want, err := adj.Fastest(open, s)
			d, is, errFar := Far(n, zero(n), s)
			if err != api.OK || errFar != api.OK {
				t.Fatalf("K4: zero flow of %v from %d: errors %d and %d", n, s, err, errFar)
			}
			for node, time := range want {
				if is[node] != (time >= 0) || d[node] != max(time, 0) {
					t.Fatalf("K1: zero flow of %v from %d: %v %v, want %v", n, s, d, is, want)
				}
				compared++
			}
		}
	}
	if compared < 100000 {
		t.Errorf("only %d times", compared)
	}
}

func TestCycleThatIsNotComeTo(t *testing.T) {
	// 0 and 1 come to nothing else; from 2 on all come to the cycle of 3 and 4.
	n := api.Net{Nodes: 6, Arcs: []api.Arc{arc(0, 1, 4), arc(2, 3, 1), arc(3, 4, 2), arc(3, 4, 3), arc(2, 1, 6), arc(4, 5, 1)}}
	f := []int{0, 0, 0, 1, 0, 0}
	isFree(t, n, f, false)
	isFar(t, n, f, 0, 0, 4, none, none, none, none)
	isFar(t, n, f, 1, none, 0, none, none, none, none)
	isFar(t, n, f, 5, none, none, none, none, none, 0)
	for _, s := range []int{2, 3, 4} {
		isFarRefused(t, n, f, s, api.ErrCycle)
	}
	// One step more from 0 or 1 comes to it, be it along or back.
	for _, more := range []loaded{{arc(1, 2, 9), 0}, {arc(0, 3, twenty), 0}, {arc(4, 1, 0), 1}, {arc(2, 0, 5), 1}} {
		m, g := n, append(slices.Clone(f), more.flow)
		m.Arcs = append(slices.Clone(n.Arcs), more.Arc)
		isFarRefused(t, m, g, 0, api.ErrCycle)
		isFree(t, m, g, false)
		m.Arcs[6].Cap, g[6] = 0, 0
		isFar(t, m, g, 0, 0, 4, none, none, none, none)
		isFree(t, m, g, false)
	}
	// Nothing leads out of the cycle.
	isFarRefused(t, n, []int{1, 1, 0, 1, 1, 0}, 4, api.ErrCycle)
	isFar(t, n, []int{1, 1, 0, 1, 1, 0}, 0, 0, none, none, none, none, none)
	// The step back from 1 to 2 does not come to it while 2 to 3 is full.
	isFar(t, n, []int{0, 1, 0, 1, 1, 0}, 0, 0, 4, -2, none, none, none)
}

func TestCycleThroughTheStart(t *testing.T) {
	n := ring(5, 2)
	for _, f := range [][]int{full(n), {1, 1, 1, 1, 1}} {
		for s := range 5 {
			isFarRefused(t, n, f, s, api.ErrCycle)
		}
		isFree(t, n, f, false)
	}
	isFar(t, n, []int{1, 1, 1, 1, 0}, 0, 0, none, none, none, none)
}

func TestStepsBackTakeNegatedTimes(t *testing.T) {
	n := api.Net{Nodes: 4, Arcs: []api.Arc{arc(0, 1, 9), arc(2, 1, 5), arc(2, 3, 7), arc(0, 3, 20)}}
	isFar(t, n, []int{0, 1, 0, 0}, 0, 0, 9, 4, 11)
	isFar(t, n, []int{0, 1, 1, 0}, 0, 0, 9, 4, 20)
	isFar(t, n, []int{0, 0, 1, 0}, 0, 0, 9, 13, 20)
	isFar(t, n, []int{1, 0, 1, 0}, 3, -11, -2, -7, 0)
	isFar(t, n, []int{1, 0, 1, 0}, 1, -9, 0, 4, 11)
	isFar(t, n, []int{1, 1, 1, 1}, 3, -20, none, -7, 0)
	isFar(t, n, []int{1, 1, 1, 1}, 1, -9, 0, -5, none)
	isFar(t, n, []int{1, 1, 1, 1}, 0, 0, none, none, none)
	for _, time := range []int{0, 1, 7, twenty} {
		n := api.Net{Nodes: 2, Arcs: []api.Arc{{To: 1, Cap: 2, Time: time}}}
		isFar(t, n, []int{0}, 0, 0, time)
		isFar(t, n, []int{0}, 1, none, 0)
		isFar(t, n, []int{1}, 0, 0, time)
		isFar(t, n, []int{1}, 1, -time, 0)
		isFar(t, n, []int{2}, 0, 0, none)
		isFar(t, n, []int{2}, 1, -time, 0)
	}
}

func TestNodesThatAreNotReached(t *testing.T) {
	n := api.Net{Nodes: 5, Arcs: []api.Arc{arc(1, 2, 3), arc(2, 0, 4), arc(3, 4, 5), {From: 2, To: 3, Time: 1}}}
	isFar(t, n, zero(n), 1, 7, 0, 3, none, none)
	isFar(t, n, zero(n), 2, 4, none, 0, none, none)
	isFar(t, n, zero(n), 0, 0, none, none, none, none)
	isFar(t, n, full(n), 0, 0, -7, -4, none, none)
	isFar(t, n, full(n), 4, none, none, none, -5, 0)
	// A node at a time of 0 is reached.
	for nodes := 2; nodes <= 50; nodes++ {
		isFar(t, line(nodes, 0), zero(line(nodes, 0)), 0, make([]int, nodes)...)
		isFar(t, line(nodes, 0), full(line(nodes, 0)), nodes-1, make([]int, nodes)...)
	}
}

func TestLongWayThatIsFaster(t *testing.T) {
	// From 0 to each node directly, or over all nodes before it.
	for nodes := 4; nodes <= 50; nodes++ {
		n := line(nodes, 5)
		for node := 2; node < nodes; node++ {
			n.Arcs = append(n.Arcs, arc(0, node, 5*node+1))
		}
		want := make([]int, nodes)
		for node := range want {
			want[node] = 5 * node
		}
		isFar(t, n, zero(n), 0, want...)
		back, f := reordered(n, zero(n), backwards(len(n.Arcs)))
		isFar(t, back, f, 0, want...)
		// Where the line is blocked, the direct arc is taken, and the line behind it.
		gap := nodes / 2
		f = zero(n)
		f[gap-1] = 1
		for node := gap; node < nodes; node++ {
			want[node]++
		}
		isFar(t, n, f, 0, want...)
	}
}

// K2.

func TestTightOfManyNets(t *testing.T) {
	next := numbers(114)
	tight, loose := 0, 0
	for _, n := range nets() {
		for _, below := range []int{1, 2, 6, 40, twenty} {
			p := someNumbers(next, n.Nodes, below)
			f := tightFlow(next, n, p)
			if !tightAnew(n, f, p) {
				t.Fatalf("%v of %v with %v", f, n, p)
			}
			for _, g := range [][]int{f, spoiled(next, n, f), anyFlow(next, n), zero(n), full(n)} {
				for _, by := range []int{0, 1, -1, -below, forty - below, -forty} {
					q := slices.Clone(p)
					for node := range q {
						q[node] += by
					}
					if testTight(t, n, g, q) {
						tight++
					} else {
						loose++
					}
					q[next(len(q))]--
					if !slices.Contains(q, -forty-1) {
						testTight(t, n, g, q)
					}
				}
			}
		}
	}
	if tight < 5000 || loose < 5000 {
		t.Errorf("only %d tight and %d others", tight, loose)
	}
}

func TestTightOfAllSmallNets(t *testing.T) {
	for _, nodes := range []int{1, 2} {
		for length := range 3 {
			products(loadedArcs(nodes, 0, 1, 2), length, func(l []loaded) {
				n, f := netOf(nodes, l)
				products([]int{-3, -2, -1, 0, 1, 2, 3}, nodes, func(p []int) { testTight(t, n, f, p) })
			})
		}
	}
	products(loadedArcs(3, 1), 2, func(l []loaded) {
		n, f := netOf(3, l)
		products([]int{-2, -1, 0, 1, 2}, 3, func(p []int) { testTight(t, n, f, p) })
	})
}

func TestTightAtTheTime(t *testing.T) {
	for _, time := range []int{0, 1, 7, twenty} {
		n := api.Net{Nodes: 3, Arcs: []api.Arc{{From: 1, To: 2, Cap: 2, Time: time}}}
		for _, first := range []int{0, 5, -5, -forty, forty - twenty - 1} {
			before, at, behind := []int{7, first + 1, first + time}, []int{-7, first, first + time}, []int{0, first, first + time + 1}
			for k, want := range [][3]bool{{true, true, false}, {false, true, false}, {false, true, true}} {
				isTight(t, n, []int{k}, before, want[0])
				isTight(t, n, []int{k}, at, want[1])
				isTight(t, n, []int{k}, behind, want[2])
			}
		}
	}
}

func TestNumbersThatAreNone(t *testing.T) {
	for _, nodes := range []int{1, 2, 3, 49, 50} {
		for _, n := range []api.Net{{Nodes: nodes}, line(nodes, 2), {Nodes: nodes, Arcs: someArcs(200)}} {
			for _, f := range [][]int{zero(n), full(n)} {
				good := make([]int, nodes)
				for _, p := range [][]int{nil, {}, good[1:], append(slices.Clone(good), 0), slices.Repeat(good, 2), make([]int, 1000)} {
					isTightRefused(t, n, f, p, api.ErrArg)
				}
				for _, place := range []int{0, nodes / 2, nodes - 1} {
					for _, k := range []int{forty + 1, -forty - 1, 1 << 41, -1 << 41, most, least, most - 1, least + 1} {
						p := slices.Clone(good)
						p[place] = k
						isTightRefused(t, n, f, p, api.ErrArg)
					}
					for _, k := range []int{forty, forty - 1, -forty, -forty + 1} {
						p := slices.Clone(good)
						p[place] = k
						testTight(t, n, f, p)
					}
				}
			}
		}
	}
}

func TestNumbersFurthestApart(t *testing.T) {
	n := api.Net{Nodes: 2, Arcs: []api.Arc{{To: 1, Cap: 1, Time: twenty}}}
	isTight(t, n, []int{0}, []int{-forty, forty}, false)
	isTight(t, n, []int{0}, []int{forty, -forty}, true)
	isTight(t, n, []int{1}, []int{-forty, forty}, true)
	isTight(t, n, []int{1}, []int{forty, -forty}, false)
	isTight(t, n, []int{0}, []int{forty, forty}, true)
	isTight(t, n, []int{1}, []int{-forty, -forty}, false)
	isTight(t, n, []int{1}, []int{forty - twenty, forty}, true)
	isTight(t, n, []int{0}, []int{-forty, twenty - forty}, true)
	isTight(t, n, []int{0}, []int{-forty, twenty - forty + 1}, false)
}

func TestStepsWithoutRoomDoNotCount(t *testing.T) {
	n := api.Net{Nodes: 2, Arcs: []api.Arc{{To: 1, Time: 3}, {From: 1, Time: 3}, {To: 1, Cap: 1, Time: 5}}}
	for _, p := range [][]int{{0, 5}, {0, 4}, {0, 0}, {5, 0}, {9, -9}} {
		isTight(t, n, []int{0, 0, 0}, p, true)
		isTight(t, n, []int{0, 0, 1}, p, p[1] == 5)
	}
	isTight(t, n, []int{0, 0, 0}, []int{0, 6}, false)
	isTight(t, n, []int{0, 0, 1}, []int{0, 6}, true)
}

// K3.

func TestCycleWhoseTimeIsZero(t *testing.T) {
	// Two ways from 0 to 2 that take the same time: one along, the other back.
	n := api.Net{Nodes: 3, Arcs: []api.Arc{arc(0, 1, 4), arc(1, 2, 1), arc(0, 2, 5)}}
	for _, f := range [][]int{{0, 0, 1}, {1, 1, 0}, {0, 0, 0}, {1, 1, 1}, {1, 0, 1}, {0, 1, 1}} {
		isFree(t, n, f, true)
	}
	isFar(t, n, []int{0, 0, 1}, 0, 0, 4, 5)
	isFar(t, n, []int{0, 0, 1}, 2, -5, -1, 0)
	isFar(t, n, []int{1, 1, 0}, 2, -5, -1, 0)
	isFar(t, n, []int{1, 1, 0}, 1, -4, 0, 1)
	// One less or one more, and one of the two is negative.
	n.Arcs[2].Time = 6
	isFree(t, n, []int{0, 0, 1}, false)
	isFree(t, n, []int{1, 1, 0}, true)
	isFarRefused(t, n, []int{0, 0, 1}, 1, api.ErrCycle)
	n.Arcs[2].Time = 4
	isFree(t, n, []int{0, 0, 1}, true)
	isFree(t, n, []int{1, 1, 0}, false)
	isFarRefused(t, n, []int{1, 1, 0}, 1, api.ErrCycle)
	for nodes := 2; nodes <= 50; nodes++ {
		n := ring(nodes, 0)
		isFree(t, n, full(n), true)
		isFree(t, n, zero(n), true)
		isFar(t, n, full(n), nodes/2, make([]int, nodes)...)
	}
}

func TestAlongAndBackAgainIsNoNegativeCycle(t *testing.T) {
	for nodes := 2; nodes <= 50; nodes++ {
		n := line(nodes, twenty)
		for i := range n.Arcs {
			n.Arcs[i].Cap = 2
		}
		f, want := slices.Repeat([]int{1}, nodes-1), make([]int, nodes)
		for s := range nodes {
			for node := range want {
				want[node] = (node - s) * twenty
			}
			isFar(t, n, f, s, want...)
		}
		isFree(t, n, f, true)
	}
}

func TestRingsThatAreFull(t *testing.T) {
	for nodes := 1; nodes <= 50; nodes++ {
		for place := range nodes {
			// The ring takes time at one arc only. Any arc opens it.
			n := ring(nodes, 0)
			n.Arcs[place].Time = 1
			f := full(n)
			isFree(t, n, f, false)
			isFarRefused(t, n, f, nodes-1-place, api.ErrCycle)
			other, g := reordered(n, f, backwards(nodes))
			isFree(t, other, g, false)
			isFarRefused(t, other, g, place, api.ErrCycle)
			f[nodes-1-place] = 0
			isFree(t, n, f, true)
			isFree(t, n, zero(n), true)
		}
	}
}

func TestCycleAnywhere(t *testing.T) {
	// A long line, on which two arcs between the same nodes make a cycle.
	for place := range 49 {
		n := line(50, 3)
		n.Arcs = append(n.Arcs, arc(place, place+1, 4))
		f := zero(n)
		f[49] = 1
		isFree(t, n, f, false)
		for s := range 50 {
			if s <= place+1 {
				isFarRefused(t, n, f, s, api.ErrCycle)
				continue
			}
			d, is, err := Far(n, f, s)
			if err != api.OK || slices.Contains(is[:s], true) || slices.Contains(is[s:], false) || d[49] != 3*(49-s) {
				t.Errorf("K1: cycle at %d, from %d: %v %v %d", place, s, d, is, err)
			}
		}
		f = full(n)
		f[49] = 0
		isFree(t, n, f, true)
		f[49] = 1
		isFree(t, n, f, true)
	}
}

// K4.

// testNoNumbers fails if the numbers are tight.
func testNoNumbers(t *testing.T, n api.Net, f, p []int) {
	t.Helper()
	if ok, err := Tight(n, f, p); ok || err != api.OK {
		t.Fatalf("K4: %v of %v is not free, but %v: %v %d", f, n, p, ok, err)
	}
}

func TestNoNumbersAreTightIfNotFree(t *testing.T) {
	next := numbers(115)
	tried := 0
	for _, n := range nets() {
		for _, f := range flows(next, n) {
			if free, _ := Free(n, f); free {
				continue
			}
			tried++
			for _, below := range []int{1, 4, 100, twenty, forty} {
				testNoNumbers(t, n, f, someNumbers(next, n.Nodes, below))
			}
			d, _, _ := Far(n, zero(n), 0)
			testNoNumbers(t, n, f, d)
		}
	}
	if tried < 800 {
		t.Errorf("only %d flows", tried)
	}
	for length := range 4 {
		products(loadedArcs(2, 0, 1), length, func(l []loaded) {
			n, f := netOf(2, l)
			if free, _ := Free(n, f); !free {
				products([]int{-2, -1, 0, 1, 2}, 2, func(p []int) { testNoNumbers(t, n, f, p) })
			}
		})
	}
}

func TestSomeNumbersAreTightIfFree(t *testing.T) {
	next := numbers(116)
	tried := 0
	for _, n := range nets() {
		for _, f := range flows(next, n) {
			if free, _ := Free(n, f); !free {
				continue
			}
			tried++
			// The least time from any node, a path without steps among them.
			all, p := betweenAll(n.Nodes, waysOf(n, f)), make([]int, n.Nodes)
			for node := range p {
				for s := range p {
					p[node] = min(p[node], all[s][node])
				}
			}
			isTight(t, n, f, p, true)
		}
	}
	if tried < 1000 {
		t.Errorf("only %d flows", tried)
	}
}

func TestTightNumbersMeanFree(t *testing.T) {
	next := numbers(117)
	for _, n := range nets() {
		for range 10 {
			p := someNumbers(next, n.Nodes, 1+next(3*twenty))
			f := tightFlow(next, n, p)
			isTight(t, n, f, p, true)
			isFree(t, n, f, true)
			s := next(n.Nodes)
			d, is, err := Far(n, f, s)
			if err != api.OK {
				t.Fatalf("K4: %v of %v from %d: %d, but %v is tight", f, n, s, err, p)
			}
			for node := range d {
				if is[node] && d[node] < p[node]-p[s] {
					t.Fatalf("K4: %v of %v from %d: %v, but %v is tight", f, n, s, d, p)
				}
			}
		}
	}
}

func TestTheZeroFlowIsFree(t *testing.T) {
	for _, n := range nets() {
		isFree(t, n, zero(n), true)
		isTight(t, n, zero(n), make([]int, n.Nodes), true)
		for s := range n.Nodes {
			if _, _, err := Far(n, zero(n), s); err != api.OK {
				t.Errorf("K4: zero flow of %v from %d: %d", n, s, err)
			}
		}
	}
}

// allFlows calls do with each flow of the network.
func allFlows(n api.Net, do func(f []int)) {
	f := zero(n)
	var fill func(place int)
	fill = func(place int) {
		if place == len(f) {
			do(f)
			return
		}
		for k := range n.Arcs[place].Cap + 1 {
			f[place] = k
			fill(place + 1)
		}
		f[place] = 0
	}
	fill(0)
}

func TestFreeFlowsCostTheLeast(t *testing.T) {
	next := numbers(118)
	free, dearer := 0, 0
	for range 3000 {
		nodes := 1 + next(4)
		n := near(next, nodes, 1+next(6), 1+next(6))
		// The balances of at most 4 nodes, and the least cost of a flow with them.
		cheapest := map[[4]int]int{}
		balancesOf := func(f []int) (balances [4]int) {
			b, _ := static.Balance(n, f)
			copy(balances[:], b)
			return balances
		}
		allFlows(n, func(f []int) {
			b := balancesOf(f)
			if cost, ok := cheapest[b]; !ok || costAnew(n, f) < cost {
				cheapest[b] = costAnew(n, f)
			}
		})
		allFlows(n, func(f []int) {
			// A flow with a negative cycle is made cheaper by pushing along it.
			cheap := costAnew(n, f) == cheapest[balancesOf(f)]
			if ok, err := Free(n, f); ok != cheap || err != api.OK {
				t.Fatalf("K4: %v of %v costs %d, the least is %d: %v %d", f, n, costAnew(n, f), cheapest[balancesOf(f)], ok, err)
			}
			if cheap {
				free++
			} else {
				dearer++
			}
		})
	}
	if free < 5000 || dearer < 5000 {
		t.Errorf("only %d free flows and %d others", free, dearer)
	}
}

func TestPathsFilledOneAfterTheOther(t *testing.T) {
	// A flow stays free while it is increased along fastest paths, whose times do
	// not decrease.
	next := numbers(119)
	pushed := 0
	for range 1000 {
		nodes := 2 + next(12)
		n := near(next, nodes, 3*nodes, 1+next(9))
		s, sink, f, last := 0, nodes-1, zero(n), 0
		for {
			d, is, err := Far(n, f, s)
			if err != api.OK {
				t.Fatalf("K4: %v of %v from %d: %d", f, n, s, err)
			}
			isFree(t, n, f, true)
			if !is[sink] {
				break
			}
			if d[sink] < last {
				t.Fatalf("K4: %v of %v from %d to %d: %d after %d", f, n, s, sink, d[sink], last)
			}
			last, pushed = d[sink], pushed+1
			f = pushedOne(t, n, f, s, sink, d[sink])
		}
	}
	if pushed < 500 {
		t.Errorf("only %d paths", pushed)
	}
}

// pushedOne returns the flow that is increased by 1 along a path from s to the
// sink with that time, found by trying steps of which Far says that they leave
// enough time.
func pushedOne(t *testing.T, n api.Net, f []int, s, sink, time int) []int {
	t.Helper()
	been := make([]bool, n.Nodes)
	var l []api.Step
	var search func(node, left int) bool
	search = func(node, left int) bool {
		if node == sink {
			return left == 0
		}
		been[node] = true
		for place, a := range n.Arcs {
			for _, x := range []struct {
				step api.Step
				way
				room int
			}{
				{api.Step{Arc: place}, way{a.From, a.To, a.Time}, a.Cap - f[place]},
				{api.Step{Arc: place, Back: true}, way{a.To, a.From, -a.Time}, f[place]},
			} {
				if x.from != node || x.room == 0 || been[x.to] {
					continue
				}
				if d, is, _ := Far(n, f, x.to); !is[sink] || d[sink] != left-x.time {
					continue
				}
				l = append(l, x.step)
				if search(x.to, left-x.time) {
					return true
				}
				l = l[:len(l)-1]
			}
		}
		been[node] = false
		return false
	}
	if !search(s, time) {
		t.Fatalf("K1: %v of %v from %d to %d: no path of %d", f, n, s, sink, time)
	}
	after, err := static.Push(n, f, l, 1)
	if err != api.OK {
		t.Fatalf("K1: %v of %v: %v has no room", f, n, l)
	}
	return after
}

// Errors.

func TestErrorsOfCheckComeFirst(t *testing.T) {
	right := api.Arc{To: 1, Cap: 3, Time: 4}
	wrong := api.Arc{From: 2, To: 1}
	great := api.Arc{To: 1, Time: twenty + 1}
	for _, c := range []struct {
		nodes int
		arcs  []api.Arc
		want  api.Errno
	}{
		{0, nil, api.ErrNet}, {-1, nil, api.ErrNet}, {least, nil, api.ErrNet}, {0, []api.Arc{great}, api.ErrNet}, {0, someArcs(201), api.ErrNet},
		{51, nil, api.ErrLimit}, {most, nil, api.ErrLimit}, {51, []api.Arc{wrong}, api.ErrLimit},
		{1, someArcs(201), api.ErrLimit}, {50, someArcs(5000), api.ErrLimit}, {2, append([]api.Arc{wrong}, someArcs(200)...), api.ErrLimit},
		{2, []api.Arc{{From: -1}}, api.ErrNet}, {2, []api.Arc{{From: 2}}, api.ErrNet}, {2, []api.Arc{{From: least}}, api.ErrNet},
		{2, []api.Arc{{To: -1}}, api.ErrNet}, {2, []api.Arc{{To: 2}}, api.ErrNet}, {2, []api.Arc{{To: most}}, api.ErrNet},
		{2, []api.Arc{{Cap: -1}}, api.ErrNet}, {2, []api.Arc{{Time: -1}}, api.ErrNet}, {2, []api.Arc{{To: 1, Time: least}}, api.ErrNet},
		{2, []api.Arc{{Cap: twenty + 1}}, api.ErrLimit}, {2, []api.Arc{{Time: twenty + 1}}, api.ErrLimit}, {2, []api.Arc{{To: 1, Cap: most}}, api.ErrLimit},
		{2, []api.Arc{right, wrong, great}, api.ErrNet}, {2, []api.Arc{right, great, wrong}, api.ErrLimit},
		{2, append(someArcs(199), wrong), api.ErrNet}, {2, append(someArcs(199), great), api.ErrLimit},
	} {
		n := api.Net{Nodes: c.nodes, Arcs: c.arcs}
		for _, f := range [][]int{nil, zero(n), full(n), {-1}, make([]int, 1000), append(zero(n), most)} {
			for _, s := range numbersAround(min(max(c.nodes, 0), 60)) {
				isFarRefused(t, n, f, s, c.want)
			}
			for _, p := range listsAround(min(max(c.nodes, 0), 60)) {
				isTightRefused(t, n, f, p, c.want)
			}
			isFreeRefused(t, n, f, c.want)
		}
	}
}

func TestWhatIsNoFlow(t *testing.T) {
	for _, n := range []api.Net{
		line(2, 0), line(2, 5), line(50, twenty), ring(3, 4), {Nodes: 1, Arcs: someArcs(200)}, {Nodes: 1, Arcs: []api.Arc{{}}},
		{Nodes: 3, Arcs: []api.Arc{arc(0, 1, 2), {From: 1, To: 2, Time: 3}, arc(2, 2, 7)}},
	} {
		for _, f := range noFlows(n) {
			// ErrFlow comes ahead of what is wrong with s and with the numbers.
			for _, s := range numbersAround(n.Nodes) {
				isFarRefused(t, n, f, s, api.ErrFlow)
			}
			for _, p := range listsAround(n.Nodes) {
				isTightRefused(t, n, f, p, api.ErrFlow)
			}
			isFreeRefused(t, n, f, api.ErrFlow)
		}
		testAll(t, n, zero(n))
		testAll(t, n, full(n))
	}
	for _, nodes := range []int{1, 2, 50} {
		n := api.Net{Nodes: nodes}
		isFarRefused(t, n, []int{0}, -1, api.ErrFlow)
		isTightRefused(t, n, []int{0}, nil, api.ErrFlow)
		isFreeRefused(t, n, []int{0}, api.ErrFlow)
	}
}

// Edges.

func TestOneNode(t *testing.T) {
	for arcs := range 6 {
		for _, time := range []int{0, 1, twenty} {
			n := api.Net{Nodes: 1, Arcs: slices.Repeat([]api.Arc{arc(0, 0, time)}, arcs)}
			isFar(t, n, zero(n), 0, 0)
			isFree(t, n, zero(n), true)
			isTight(t, n, zero(n), []int{-9}, true)
			isTight(t, n, full(n), []int{-9}, arcs == 0 || time == 0)
			isFree(t, n, full(n), arcs == 0 || time == 0)
			if arcs == 0 || time == 0 {
				isFar(t, n, full(n), 0, 0)
			} else {
				isFarRefused(t, n, full(n), 0, api.ErrCycle)
			}
			isFarRefused(t, n, zero(n), 1, api.ErrArg)
			isFarRefused(t, n, zero(n), -1, api.ErrArg)
		}
	}
}

func TestTwoNodes(t *testing.T) {
	n := api.Net{Nodes: 2, Arcs: []api.Arc{arc(0, 1, 3), arc(1, 0, 5)}}
	isFar(t, n, []int{0, 0}, 0, 0, 3)
	isFar(t, n, []int{0, 0}, 1, 5, 0)
	isFar(t, n, []int{1, 0}, 0, 0, none)
	isFar(t, n, []int{1, 0}, 1, -3, 0)
	isFar(t, n, []int{0, 1}, 0, 0, -5)
	isFar(t, n, []int{0, 1}, 1, none, 0)
	isFarRefused(t, n, []int{1, 1}, 0, api.ErrCycle)
	isFarRefused(t, n, []int{1, 1}, 1, api.ErrCycle)
	isFree(t, n, []int{1, 0}, true)
	isFree(t, n, []int{0, 1}, true)
	isFree(t, n, []int{1, 1}, false)
}

func TestNoArc(t *testing.T) {
	for _, nodes := range []int{1, 2, 50} {
		n := api.Net{Nodes: nodes}
		for _, f := range [][]int{nil, {}} {
			for s := range nodes {
				want := slices.Repeat([]int{none}, nodes)
				want[s] = 0
				isFar(t, n, f, s, want...)
			}
			isFree(t, n, f, true)
			isTight(t, n, f, make([]int, nodes), true)
			isTight(t, n, f, append(make([]int, nodes-1), forty), true)
			isTight(t, n, f, append(make([]int, nodes-1), -forty), true)
			isTightRefused(t, n, f, nil, api.ErrArg)
		}
	}
}

func TestTwoHundredArcs(t *testing.T) {
	n, f := api.Net{Nodes: 2}, []int{}
	for place := range 200 {
		n.Arcs, f = append(n.Arcs, arc(place%2, 1-place%2, twenty-place)), append(f, 0)
	}
	isFar(t, n, f, 0, 0, twenty-198)
	isFar(t, n, f, 1, twenty-199, 0)
	isFree(t, n, f, true)
	f[198] = 1
	isFar(t, n, f, 0, 0, twenty-196)
	isFar(t, n, f, 1, 198-twenty, 0)
	isFree(t, n, f, true)
	f[0] = 1
	isFree(t, n, f, false)
	isFarRefused(t, n, f, 0, api.ErrCycle)
	isFree(t, n, full(n), false)
	for place := range 200 {
		f := zero(n)
		f[place] = 1
		free, _ := testAll(t, n, f)
		if free != (place >= 198) {
			t.Errorf("K3: a flow along %d only: %v", place, free)
		}
	}
}

func TestArcsFromANodeToItself(t *testing.T) {
	n := api.Net{Nodes: 3, Arcs: []api.Arc{arc(0, 1, 2), {From: 1, To: 1, Cap: 3, Time: 4}, {From: 2, To: 2, Cap: 3}, arc(2, 0, 1)}}
	for _, k := range []int{0, 1, 2, 3} {
		// Time 0: no harm.
		isFree(t, n, []int{0, 0, k, 0}, true)
		isFar(t, n, []int{0, 0, k, 0}, 2, 1, 3, 0)
		isTight(t, n, []int{0, 0, k, 0}, []int{1, 3, 0}, true)
		// Back along Time 4 is a cycle of one step.
		isFree(t, n, []int{0, k, 0, 0}, k == 0)
		isTight(t, n, []int{0, k, 0, 0}, []int{1, 3, 0}, k == 0)
		if k > 0 {
			isFarRefused(t, n, []int{0, k, 0, 0}, 0, api.ErrCycle)
			isFarRefused(t, n, []int{0, k, 0, 0}, 1, api.ErrCycle)
			isFar(t, n, []int{1, k, 0, 0}, 0, 0, none, none)
		}
	}
}

func TestSeveralArcsBetweenTheSameNodes(t *testing.T) {
	n := api.Net{Nodes: 2, Arcs: []api.Arc{arc(0, 1, 6), arc(0, 1, 4), arc(1, 0, 3), arc(0, 1, 5), arc(1, 0, 2), {To: 1, Time: 1}}}
	isFar(t, n, zero(n), 0, 0, 4)
	isFar(t, n, zero(n), 1, 2, 0)
	isFar(t, n, []int{0, 1, 0, 0, 0, 0}, 0, 0, 5)
	isFar(t, n, []int{0, 1, 0, 0, 0, 0}, 1, -4, 0)
	isFar(t, n, []int{0, 1, 0, 1, 0, 0}, 0, 0, 6)
	isFar(t, n, []int{0, 1, 0, 1, 0, 0}, 1, -5, 0)
	isFar(t, n, []int{1, 1, 0, 1, 0, 0}, 0, 0, none)
	isFar(t, n, []int{1, 1, 0, 1, 0, 0}, 1, -6, 0)
	for _, f := range [][]int{{1, 0, 0, 0, 0, 0}, {0, 0, 0, 1, 0, 0}, {0, 1, 0, 0, 1, 0}, {0, 0, 1, 0, 0, 0}, {1, 1, 1, 1, 1, 0}} {
		isFree(t, n, f, false)
		isFarRefused(t, n, f, 0, api.ErrCycle)
		isFarRefused(t, n, f, 1, api.ErrCycle)
	}
	allFlows(n, func(f []int) { testAllTried(t, n, f) })
}

func TestCapOfZero(t *testing.T) {
	for nodes := 1; nodes <= 50; nodes++ {
		n := ring(nodes, 3)
		for i := range n.Arcs {
			n.Arcs[i].Cap = 0
		}
		for s := range nodes {
			want := slices.Repeat([]int{none}, nodes)
			want[s] = 0
			isFar(t, n, zero(n), s, want...)
		}
		isFree(t, n, zero(n), true)
		p := slices.Repeat([]int{forty}, nodes)
		p[0] = -forty
		isTight(t, n, zero(n), p, true)
	}
}

func TestGreatestTimesOnLongPaths(t *testing.T) {
	next := numbers(120)
	n, want := line(50, twenty), make([]int, 50)
	for node := range want {
		want[node] = node * twenty
	}
	back := slices.Clone(want)
	for node := range back {
		back[node] -= 49 * twenty
	}
	for _, order := range [][]int{shuffled(next, 49), backwards(49), shuffled(next, 49)} {
		m, f := reordered(n, zero(n), order)
		isFar(t, m, f, 0, want...)
		isTight(t, m, f, want, true)
		isFree(t, m, f, true)
		m, f = reordered(n, full(n), order)
		isFar(t, m, f, 49, back...)
		isTight(t, m, f, back, true)
		isTight(t, m, f, make([]int, 50), false)
		isFree(t, m, f, true)
	}
	// The cycle of all arcs.
	r := ring(50, twenty)
	isFree(t, r, zero(r), true)
	isFree(t, r, full(r), false)
	for s := range 50 {
		isFarRefused(t, r, full(r), s, api.ErrCycle)
	}
	f := full(r)
	f[49] = 0
	isFree(t, r, f, true)
	isFar(t, r, f, 49, back...)
	// 200 arcs that go round and round.
	many := api.Net{Nodes: 50, Arcs: slices.Repeat(r.Arcs, 4)}
	isFree(t, many, full(many), false)
	isFarRefused(t, many, full(many), 7, api.ErrCycle)
	isFar(t, many, zero(many), 0, want...)
}

func TestAsManyRoundsAsNeeded(t *testing.T) {
	// In each order of the arcs, those of a long line that is blocked by nothing.
	next := numbers(121)
	for nodes := 2; nodes <= 50; nodes++ {
		for _, time := range []int{1, 9, 1000} {
			n := line(nodes, time)
			for _, order := range [][]int{shuffled(next, nodes-1), backwards(nodes - 1), backwards(nodes - 1)[:nodes-2]} {
				for _, f := range [][]int{zero(n), full(n), anyFlow(next, n)} {
					m, g := reordered(n, f, order)
					if free, cycles := testAll(t, m, g); !free || cycles > 0 {
						t.Errorf("K3: %v of %v: %v %d", g, m, free, cycles)
					}
				}
			}
		}
	}
}

func TestWidthAndHoldMakeNoDifference(t *testing.T) {
	next := numbers(122)
	for _, n := range nets() {
		for _, f := range flows(next, n) {
			// The same room, or the lack of it, in other numbers.
			other, g := api.Net{Nodes: n.Nodes, Hold: !n.Hold, Arcs: slices.Clone(n.Arcs)}, slices.Clone(f)
			for i, a := range n.Arcs {
				room := min(a.Cap-f[i], 1) * (1 + next(1000))
				g[i] = min(f[i], 1) * (1 + next(1000))
				other.Arcs[i].Cap = g[i] + room
			}
			s := next(n.Nodes)
			d, is, err := Far(n, f, s)
			testFar(t, other, g, s, d, is, err)
			free, _ := Free(n, f)
			isFree(t, other, g, free)
			p := someNumbers(next, n.Nodes, 9)
			isTight(t, other, g, p, tightAnew(n, f, p))
		}
	}
}

func TestOrderOfArcsMakesNoDifference(t *testing.T) {
	next := numbers(123)
	for _, n := range nets() {
		for _, f := range flows(next, n) {
			m, g := reordered(n, f, shuffled(next, len(f)))
			s := next(n.Nodes)
			d, is, err := Far(n, f, s)
			testFar(t, m, g, s, d, is, err)
			free, _ := Free(n, f)
			isFree(t, m, g, free)
			p := someNumbers(next, n.Nodes, 9)
			ok, _ := Tight(n, f, p)
			isTight(t, m, g, p, ok)
		}
	}
}

// R3, R4.

func TestArgumentsStay(t *testing.T) {
	next := numbers(124)
	all := append(nets(), api.Net{}, api.Net{Nodes: 51, Arcs: someArcs(3)}, api.Net{Nodes: 1, Arcs: someArcs(202)},
		api.Net{Nodes: 2, Arcs: []api.Arc{{To: 1}, {To: 2}, {Cap: 1}, {Cap: twenty + 1}}})
	for i, n := range all {
		for _, f := range [][]int{zero(n), full(n), anyFlow(next, n), {-1, 3}} {
			p := someNumbers(next, n.Nodes+3, 5)
			arcs, flow, given := slices.Clone(n.Arcs), slices.Clone(f), slices.Clone(p)
			shorter := n
			shorter.Arcs = n.Arcs[:len(n.Arcs)/2]
			less := f[:min(len(f), len(n.Arcs)/2)]
			for _, s := range []int{0, n.Nodes - 1, -1} {
				Far(n, f, s)
				Far(shorter, less, s)
			}
			for _, q := range [][]int{p[:n.Nodes], p, p[:1]} {
				Tight(n, f, q)
				Tight(shorter, less, q)
			}
			Free(n, f)
			Free(shorter, less)
			if !slices.Equal(n.Arcs, arcs) || !slices.Equal(f, flow) || !slices.Equal(p, given) {
				t.Fatalf("R3: network %d: %v %v %v became %v %v %v", i, arcs, flow, given, n.Arcs, f, p)
			}
		}
	}
}

func TestResultsAreApart(t *testing.T) {
	n := line(4, 5)
	f := []int{0, 0, 1, 9}[:3]
	first, firstIs, _ := Far(n, f, 0)
	d, is, _ := Far(n, f, 0)
	d, is = d[:cap(d)], is[:cap(is)]
	for i := range d {
		d[i] = -7
	}
	for i := range is {
		is[i] = !is[i]
	}
	if !slices.Equal(f[:4], []int{0, 0, 1, 9}) || !slices.Equal(first, []int{0, 5, 10, 0}) || !slices.Equal(firstIs, []bool{true, true, true, false}) {
		t.Fatalf("R3: a change of the results made %v %v %v", f[:4], first, firstIs)
	}
	isFar(t, n, f, 0, 0, 5, 10, none)
}

func TestEarlierCallsMakeNoDifference(t *testing.T) {
	n, r := line(3, 2), ring(50, twenty)
	for range 3 {
		isFar(t, n, []int{0, 0}, 0, 0, 2, 4)
		isFar(t, n, []int{0, 1}, 2, none, -2, 0)
		isFree(t, n, []int{1, 0}, true)
		isTight(t, n, []int{1, 0}, []int{0, 2, 4}, true)
		isTight(t, n, []int{1, 0}, []int{0, 2, 5}, false)
		isFarRefused(t, r, full(r), 3, api.ErrCycle)
		isFree(t, r, full(r), false)
		isFarRefused(t, n, nil, 0, api.ErrFlow)
		isTightRefused(t, n, zero(n), nil, api.ErrArg)
		isFreeRefused(t, api.Net{Nodes: 51}, nil, api.ErrLimit)
	}
}

func TestExamples(t *testing.T) {
	n := api.Net{Nodes: 3, Arcs: []api.Arc{{From: 0, To: 1, Cap: 1, Time: 4}, {From: 1, To: 2, Cap: 1, Time: 1}, {From: 0, To: 2, Cap: 1, Time: 7}}}
	isFar(t, n, []int{0, 0, 0}, 0, 0, 4, 5)
	isFarRefused(t, n, []int{0, 0, 1}, 2, api.ErrCycle)
	isFree(t, n, []int{0, 0, 1}, false)
}
