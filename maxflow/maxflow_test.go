package maxflow

import (
	"math"
	"slices"
	"testing"

	"ebbtide/api"
	"ebbtide/level"
	"ebbtide/static"
)

const (
	most  = math.MaxInt64
	least = math.MinInt64
	// twenty is what an arc's Cap and Time may be at most.
	twenty = 1048576
)

// numbers returns a function that returns one number after the other, the same
// ones in each run.
func numbers(seed uint64) func(below int) int {
	return func(below int) int {
		seed = seed*6364136223846793005 + 1442695040888963407
		return int(seed>>33) % below
	}
}

// arc returns an arc with a Time that should make no difference.
func arc(from, to, width int) api.Arc {
	return api.Arc{From: from, To: to, Cap: width, Time: 3*from + to}
}

// The plain ways of working out what the chapter asks for, each by another
// method than the package's. The networks that they are given are right.

// crossing returns how much can leave a side, given by the bits of its nodes.
func crossing(n api.Net, side uint64) int {
	sum := 0
	for _, a := range n.Arcs {
		if side>>a.From&1 == 1 && side>>a.To&1 == 0 {
			sum += a.Cap
		}
	}
	return sum
}

// leastOfAllSides returns the least that can leave a side with s and without t,
// by trying all sides.
func leastOfAllSides(n api.Net, s, t int) int {
	out := most
	for side := range uint64(1) << n.Nodes {
		if side>>s&1 == 1 && side>>t&1 == 0 {
			out = min(out, crossing(n, side))
		}
	}
	return out
}

// reached returns the bits of the nodes that are reached from s by steps with
// room, by going over all arcs until nothing is added.
func reached(n api.Net, f []int, s int) uint64 {
	side := uint64(1) << s
	for range n.Nodes {
		for i, a := range n.Arcs {
			if f[i] < a.Cap && side>>a.From&1 == 1 {
				side |= 1 << a.To
			}
			if f[i] > 0 && side>>a.To&1 == 1 {
				side |= 1 << a.From
			}
		}
	}
	return side
}

// rooms is how much room there is from each node to each.
type rooms [50][50]int

// wide moves k from a node to t on a way with room for k at each step, over nodes
// where it has not been, and reports whether there is one.
func (r *rooms) wide(node, t, k int, been *[50]bool) bool {
	if node == t {
		return true
	}
	been[node] = true
	for to := range r[node] {
		if r[node][to] >= k && !been[to] && r.wide(to, t, k, been) {
			r[node][to] -= k
			r[to][node] += k
			return true
		}
	}
	return false
}

// valueAnew returns the greatest value by ways of any length, the widest first:
// 2^28 is more than 200 arcs take, and is halved when no way has room for it.
func valueAnew(n api.Net, s, t int) int {
	var r rooms
	for _, a := range n.Arcs {
		r[a.From][a.To] += a.Cap
	}
	sum := 0
	for k := 1 << 28; k > 0; k /= 2 {
		for r.wide(s, t, k, new([50]bool)) {
			sum += k
		}
	}
	return sum
}

// turned returns the network with the ends of its arcs exchanged.
func turned(n api.Net) api.Net {
	n.Arcs = slices.Clone(n.Arcs)
	for i, a := range n.Arcs {
		n.Arcs[i].From, n.Arcs[i].To = a.To, a.From
	}
	return n
}

// isRefused fails unless both calls return the error and nothing else.
func isRefused(t *testing.T, n api.Net, s, sink int, want api.Errno) {
	t.Helper()
	if f, value, err := Max(n, s, sink); len(f) != 0 || value != 0 || err != want {
		t.Errorf("I2: %d nodes, %d arcs, from %d to %d: %v %d %d, want %d", n.Nodes, len(n.Arcs), s, sink, f, value, err, want)
	}
	if value, err := Most(n, s, sink); value != 0 || err != want {
		t.Errorf("I1: %d nodes, %d arcs, from %d to %d: %d %d, want %d", n.Nodes, len(n.Arcs), s, sink, value, err, want)
	}
}

// testMax holds both calls against I1 to I3, and returns the value.
func testMax(t *testing.T, n api.Net, s, sink int) int {
	t.Helper()
	if s < 0 || s >= n.Nodes || sink < 0 || sink >= n.Nodes || s == sink {
		isRefused(t, n, s, sink, api.ErrEnds)
		return 0
	}
	f, value, err := Max(n, s, sink)
	if err != api.OK {
		t.Fatalf("I2: Max in %v from %d to %d: %d", n, s, sink, err)
	}
	if want := valueAnew(n, s, sink); value != want {
		t.Errorf("I2: Max in %v from %d to %d: %v %d, want %d", n, s, sink, f, value, want)
	}
	if again, err := Most(n, s, sink); again != value || err != api.OK {
		t.Errorf("I1: Most in %v from %d to %d: %d %d, want %d", n, s, sink, again, err, value)
	}
	testFlow(t, n, s, sink, f, value)
	testNoPathOn(t, n, s, sink, f, value)
	return value
}

// testFlow fails unless f is a flow from s to the sink with that value.
func testFlow(t *testing.T, n api.Net, s, sink int, f []int, value int) {
	t.Helper()
	if len(f) != len(n.Arcs) {
		t.Fatalf("I2: %d numbers for %d arcs", len(f), len(n.Arcs))
	}
	stays := make([]int, n.Nodes)
	for i, a := range n.Arcs {
		if f[i] < 0 || f[i] > a.Cap {
			t.Fatalf("I2: %v of %v from %d to %d: arc %d", f, n, s, sink, i)
		}
		stays[a.From] -= f[i]
		stays[a.To] += f[i]
	}
	want := make([]int, n.Nodes)
	want[s], want[sink] = -value, value
	if !slices.Equal(stays, want) {
		t.Fatalf("I2: %v of %v from %d to %d: %v stays, want %v", f, n, s, sink, stays, want)
	}
	if checked, err := static.Check(n, s, sink, f); checked != value || err != api.OK {
		t.Fatalf("I2: Check of %v of %v from %d to %d: %d %d, want %d", f, n, s, sink, checked, err, value)
	}
}

// testNoPathOn fails unless no path with room leads from s to the sink, and what
// is reached has no more capacity than the value.
func testNoPathOn(t *testing.T, n api.Net, s, sink int, f []int, value int) {
	t.Helper()
	side := reached(n, f, s)
	if k := crossing(n, side); side>>sink&1 == 1 || k != value {
		t.Fatalf("I3: %v of %v from %d to %d: reached %b, from which %d can leave, want %d", f, n, s, sink, side, k, value)
	}
	if l, ok, err := level.Path(n, f, s, sink); len(l) != 0 || ok || err != api.OK {
		t.Fatalf("I3: %v of %v from %d to %d: still %v %v %d", f, n, s, sink, l, ok, err)
	}
}

// testAll holds both calls against the chapter from each node to each.
func testAll(t *testing.T, n api.Net) {
	t.Helper()
	for s := range n.Nodes {
		for sink := range n.Nodes {
			testMax(t, n, s, sink)
		}
	}
}

// isMost fails unless that is the value.
func isMost(t *testing.T, n api.Net, s, sink, want int) {
	t.Helper()
	if value := testMax(t, n, s, sink); value != want {
		t.Errorf("I1: from %d to %d: %d, want %d", s, sink, value, want)
	}
}

// isFull fails unless Max returns that flow, which is the only one with that
// value.
func isFull(t *testing.T, n api.Net, s, sink, want int, full ...int) {
	t.Helper()
	isMost(t, n, s, sink, want)
	if f, _, _ := Max(n, s, sink); !slices.Equal(f, full) {
		t.Errorf("I2: from %d to %d: %v, want %v", s, sink, f, full)
	}
}

// someArcs returns so many arcs from 0 to itself.
func someArcs(n int) []api.Arc {
	l := make([]api.Arc, n)
	for i := range l {
		l[i] = api.Arc{Cap: i, Time: 2 * i}
	}
	return l
}

// line returns a network whose arcs lead from each node to the one after it,
// with that Cap.
func line(nodes, width int) api.Net {
	n := api.Net{Nodes: nodes}
	for node := 1; node < nodes; node++ {
		n.Arcs = append(n.Arcs, arc(node-1, node, width))
	}
	return n
}

// mixed returns a network of that many nodes and arcs of all kinds.
func mixed(next func(below int) int, nodes, arcs int) api.Net {
	edges := []int{0, 1, 2, 3, 7, 1000, twenty - 1, twenty}
	n := api.Net{Nodes: nodes, Hold: next(2) == 0}
	for range arcs {
		n.Arcs = append(n.Arcs, api.Arc{From: next(nodes), To: next(nodes), Cap: edges[next(len(edges))], Time: edges[next(len(edges))]})
	}
	return n
}

// layered returns a network with that many layers of so many nodes each, between
// 0 and the last node, with arcs to the same, the next and the previous layer.
func layered(next func(below int) int, layers, width, arcs int) api.Net {
	n := api.Net{Nodes: layers*width + 2}
	for node := range width {
		n.Arcs = append(n.Arcs, arc(0, 1+node, 3+next(9)), arc(n.Nodes-2-node, n.Nodes-1, 3+next(9)))
	}
	for len(n.Arcs) < arcs {
		from := next(layers)
		to := max(0, min(from-1+next(4), layers-1))
		n.Arcs = append(n.Arcs, arc(1+from*width+next(width), 1+to*width+next(width), 1+next(5)))
	}
	return n
}

// nets returns networks that are right, the smallest and the greatest among
// them.
func nets() []api.Net {
	out := []api.Net{
		{Nodes: 1}, {Nodes: 1, Hold: true, Arcs: []api.Arc{}}, {Nodes: 1, Arcs: someArcs(1)}, {Nodes: 1, Arcs: someArcs(200)},
		{Nodes: 2}, {Nodes: 50}, {Nodes: 50, Arcs: someArcs(200)}, line(50, 0), line(50, 1), line(50, twenty), line(2, 1),
		{Nodes: 2, Arcs: []api.Arc{{To: 1, Cap: 7}, {To: 1, Cap: 2, Time: 5}, {To: 1, Cap: 2, Time: 5}, {To: 1}}},
		{Nodes: 2, Arcs: []api.Arc{{To: 1, Cap: 4}, {From: 1, Cap: 6}, {From: 1, To: 1, Cap: 1}}},
	}
	next := numbers(9)
	for nodes := 1; nodes <= 50; nodes++ {
		for _, arcs := range []int{nodes / 2, nodes, 2 * nodes, next(201), 200} {
			out = append(out, mixed(next, nodes, min(arcs, 200)))
		}
	}
	for layers := 1; layers <= 12; layers++ {
		width := 48 / layers
		out = append(out, layered(next, layers, width, 200), layered(next, layers, min(width, 4), 60+next(60)))
	}
	return out
}

// numbersAround returns numbers that may be nodes, and ones that are none.
func numbersAround(nodes int) []int {
	return []int{0, nodes - 1, nodes / 2, -1, nodes, nodes + 1, -nodes, 50, 51, 1 << 32, -1 << 32, most, least}
}

func TestNets(t *testing.T) {
	next := numbers(91)
	positive := 0
	for i, n := range nets() {
		// All pairs of nodes of each greater network would take too long.
		if i%60 == 0 || n.Nodes < 8 {
			testAll(t, n)
			continue
		}
		for range 20 {
			if testMax(t, n, next(n.Nodes), next(n.Nodes)) > 0 {
				positive++
			}
		}
		if testMax(t, n, 0, n.Nodes-1) > 0 {
			positive++
		}
	}
	if positive < 1000 {
		t.Errorf("only %d values above 0", positive)
	}
}

func TestEnds(t *testing.T) {
	for _, n := range nets() {
		for _, s := range numbersAround(n.Nodes) {
			for _, sink := range numbersAround(n.Nodes) {
				testMax(t, n, s, sink)
			}
		}
	}
	for nodes := 1; nodes <= 50; nodes++ {
		n := line(nodes, 1)
		for s := -2; s <= nodes+1; s++ {
			isRefused(t, n, s, s, api.ErrEnds)
			isRefused(t, n, s, -1, api.ErrEnds)
			isRefused(t, n, nodes, s, api.ErrEnds)
		}
	}
}

func TestErrorsOfCheckComeFirst(t *testing.T) {
	right := api.Arc{To: 1, Cap: 3, Time: 4}
	wrong := api.Arc{From: 2, To: 1}
	great := api.Arc{To: 1, Time: twenty + 1}
	for _, c := range []struct {
		nodes int
		arcs  []api.Arc
		want  api.Errno
	}{
		{0, nil, api.ErrNet}, {-1, nil, api.ErrNet}, {least, nil, api.ErrNet}, {0, []api.Arc{great}, api.ErrNet}, {0, someArcs(201), api.ErrNet},
		{51, nil, api.ErrLimit}, {most, nil, api.ErrLimit}, {51, []api.Arc{wrong}, api.ErrLimit},
		{1, someArcs(201), api.ErrLimit}, {50, someArcs(5000), api.ErrLimit}, {2, append([]api.Arc{wrong}, someArcs(200)...), api.ErrLimit},
		{2, []api.Arc{{From: -1}}, api.ErrNet}, {2, []api.Arc{{From: 2}}, api.ErrNet}, {2, []api.Arc{{From: least}}, api.ErrNet},
		{2, []api.Arc{{To: -1}}, api.ErrNet}, {2, []api.Arc{{To: 2}}, api.ErrNet}, {2, []api.Arc{{To: most}}, api.ErrNet},
		{2, []api.Arc{{Cap: -1}}, api.ErrNet}, {2, []api.Arc{{Time: -1}}, api.ErrNet}, {2, []api.Arc{{To: 1, Time: least}}, api.ErrNet},
		{2, []api.Arc{{Cap: twenty + 1}}, api.ErrLimit}, {2, []api.Arc{{Time: twenty + 1}}, api.ErrLimit}, {2, []api.Arc{{To: 1, Cap: most}}, api.ErrLimit},
		{2, []api.Arc{right, wrong, great}, api.ErrNet}, {2, []api.Arc{right, great, wrong}, api.ErrLimit},
		{2, append(someArcs(199), wrong), api.ErrNet}, {2, append(someArcs(199), great), api.ErrLimit},
	} {
		n := api.Net{Nodes: c.nodes, Arcs: c.arcs}
		for _, s := range numbersAround(c.nodes) {
			for _, sink := range append(numbersAround(c.nodes), 1, s) {
				isRefused(t, n, s, sink, c.want)
			}
		}
	}
}

func TestOneNode(t *testing.T) {
	for _, n := range []api.Net{{Nodes: 1}, {Nodes: 1, Arcs: []api.Arc{}}, {Nodes: 1, Arcs: someArcs(200)}} {
		for _, s := range []int{0, 1, -1, most, least} {
			isRefused(t, n, s, 0, api.ErrEnds)
			isRefused(t, n, 0, s, api.ErrEnds)
			isRefused(t, n, s, s, api.ErrEnds)
		}
	}
}

func TestNoArc(t *testing.T) {
	for _, nodes := range []int{2, 3, 50} {
		for _, arcs := range [][]api.Arc{nil, {}} {
			n := api.Net{Nodes: nodes, Arcs: arcs}
			isFull(t, n, 0, nodes-1, 0)
			isFull(t, n, nodes-1, 0, 0)
			isRefused(t, n, 0, 0, api.ErrEnds)
			isRefused(t, n, 0, nodes, api.ErrEnds)
		}
	}
}

// products calls do with each list that has so many of the items.
func products[T any](items []T, length int, do func(l []T)) {
	l := make([]T, length)
	var fill func(place int)
	fill = func(place int) {
		if place == length {
			do(l)
			return
		}
		for _, x := range items {
			l[place] = x
			fill(place + 1)
		}
	}
	fill(0)
}

// testSides holds the value against all sides.
func testSides(t *testing.T, n api.Net, s, sink int) {
	t.Helper()
	if value, want := testMax(t, n, s, sink), leastOfAllSides(n, s, sink); value != want {
		t.Fatalf("I1: Most in %v from %d to %d: %d, but %d can leave a side", n, s, sink, value, want)
	}
}

func TestAllSmallNets(t *testing.T) {
	var arcs []api.Arc
	for place := range 27 {
		arcs = append(arcs, api.Arc{From: place % 3, To: place / 3 % 3, Cap: place / 9})
	}
	for length := range 4 {
		products(arcs, length, func(l []api.Arc) {
			n := api.Net{Nodes: 3, Arcs: l}
			testSides(t, n, 0, 2)
			testSides(t, n, 1, 0)
		})
	}
}

func TestAllNetsOfFourNodes(t *testing.T) {
	// Between each two nodes, an arc one way, the other way, both or none, and
	// then with a greater Cap one way.
	pairs := [][2]int{{0, 1}, {0, 2}, {1, 2}, {1, 3}, {2, 3}}
	products([]int{0, 1, 2, 3, 4}, len(pairs), func(l []int) {
		n := api.Net{Nodes: 4}
		for i, p := range pairs {
			if l[i] != 0 && l[i] != 2 {
				n.Arcs = append(n.Arcs, arc(p[0], p[1], max(1, l[i]-1)))
			}
			if l[i] >= 2 {
				n.Arcs = append(n.Arcs, arc(p[1], p[0], 1))
			}
		}
		testSides(t, n, 0, 3)
		slices.Reverse(n.Arcs)
		testSides(t, n, 0, 3)
	})
}

func TestManyMiddlingNets(t *testing.T) {
	next := numbers(92)
	positive := 0
	for range 3000 {
		n := api.Net{Nodes: 2 + next(8)}
		for range next(4 * n.Nodes) {
			n.Arcs = append(n.Arcs, arc(next(n.Nodes), next(n.Nodes), next(6)))
		}
		s := next(n.Nodes)
		sink := (s + 1 + next(n.Nodes-1)) % n.Nodes
		testSides(t, n, s, sink)
		if value, _ := Most(n, s, sink); value > 0 {
			positive++
		}
	}
	if positive < 1000 {
		t.Errorf("only %d values above 0", positive)
	}
}

func TestCapsAtTheEdges(t *testing.T) {
	for _, width := range []int{0, 1, 2, 7, twenty - 1, twenty} {
		for _, nodes := range []int{2, 3, 50} {
			n := line(nodes, width)
			isFull(t, n, 0, nodes-1, width, slices.Repeat([]int{width}, nodes-1)...)
			isFull(t, n, nodes-1, 0, 0, make([]int, nodes-1)...)
			// One arc alone decides, wherever it stands.
			for _, place := range []int{0, (nodes - 1) / 2, nodes - 2} {
				narrow := line(nodes, twenty)
				narrow.Arcs[place].Cap = width
				isFull(t, narrow, 0, nodes-1, width, slices.Repeat([]int{width}, nodes-1)...)
			}
		}
		isRefused(t, line(2, twenty+1), 0, 1, api.ErrLimit)
		isRefused(t, line(2, -1), 0, 1, api.ErrNet)
	}
}

func TestGreatestValue(t *testing.T) {
	for _, arcs := range []int{0, 1, 2, 199, 200} {
		n := api.Net{Nodes: 2}
		for range arcs {
			n.Arcs = append(n.Arcs, arc(0, 1, twenty))
		}
		isFull(t, n, 0, 1, arcs*twenty, slices.Repeat([]int{twenty}, arcs)...)
		isFull(t, n, 1, 0, 0, make([]int, arcs)...)
	}
	// Through a node between them, and through 48 of them.
	n, wide := api.Net{Nodes: 3}, api.Net{Nodes: 50}
	for i := range 100 {
		n.Arcs = append(n.Arcs, arc(0, 1, twenty), arc(1, 2, twenty))
		wide.Arcs = append(wide.Arcs, arc(0, 1+i%48, twenty), arc(1+i%48, 49, twenty))
	}
	isFull(t, n, 0, 2, 100*twenty, slices.Repeat([]int{twenty}, 200)...)
	isFull(t, wide, 0, 49, 100*twenty, slices.Repeat([]int{twenty}, 200)...)
}

func TestSinkThatIsNotReached(t *testing.T) {
	// All arcs lead from the sink, to the source, or around behind a cut.
	n := api.Net{Nodes: 6, Arcs: []api.Arc{arc(5, 0, 9), arc(0, 1, 9), arc(1, 2, 9), arc(2, 0, 9), arc(3, 4, 9), arc(4, 5, 9), arc(5, 3, 9), arc(3, 1, 9)}}
	isMost(t, n, 0, 5, 0)
	isMost(t, n, 5, 0, 18)
	// One arc without a Cap between the halves makes no difference, one with 1
	// does.
	n.Arcs = append(n.Arcs, arc(2, 4, 0))
	isMost(t, n, 0, 5, 0)
	n.Arcs[8].Cap = 1
	isMost(t, n, 0, 5, 1)
	alone := api.Net{Nodes: 50, Arcs: line(49, twenty).Arcs}
	isMost(t, alone, 0, 49, 0)
	isMost(t, alone, 49, 0, 0)
	isMost(t, alone, 0, 48, twenty)
}

func TestArcsFromANodeToItself(t *testing.T) {
	n := api.Net{Nodes: 3, Arcs: []api.Arc{arc(0, 0, 9), arc(0, 1, 5), arc(1, 1, 9), arc(2, 2, 9), arc(1, 2, 4), arc(0, 0, twenty), arc(2, 2, 1)}}
	isMost(t, n, 0, 2, 4)
	isMost(t, n, 2, 0, 0)
	isMost(t, n, 0, 1, 5)
	for _, node := range []int{0, 1, 49} {
		loops := api.Net{Nodes: 50}
		for range 199 {
			loops.Arcs = append(loops.Arcs, arc(node, node, twenty))
		}
		loops.Arcs = append(loops.Arcs, arc(0, 49, 6))
		isMost(t, loops, 0, 49, 6)
		isMost(t, loops, 49, 0, 0)
	}
}

func TestSeveralArcsBetweenTheSameNodes(t *testing.T) {
	n := api.Net{Nodes: 2, Arcs: []api.Arc{arc(0, 1, 0), arc(0, 1, 2), arc(1, 0, 5), arc(0, 1, 2), arc(1, 0, 0), arc(0, 1, 3)}}
	isMost(t, n, 0, 1, 7)
	isMost(t, n, 1, 0, 5)
	// What goes out and comes back to a node between makes no more.
	n.Nodes = 3
	n.Arcs = append(n.Arcs, arc(1, 2, 6), arc(2, 1, 8), arc(1, 2, 0), arc(2, 1, 1))
	isMost(t, n, 0, 2, 6)
	isMost(t, n, 2, 0, 5)
	isMost(t, n, 2, 1, 9)
}

func TestEarlierPathsAreUndone(t *testing.T) {
	// The shortest path, 0-1-2-3, takes what both of the longer ones need.
	n := api.Net{Nodes: 8, Arcs: []api.Arc{
		arc(0, 1, 1), arc(1, 2, 1), arc(2, 3, 1),
		arc(0, 4, 1), arc(4, 5, 1), arc(5, 2, 1), arc(1, 6, 1), arc(6, 7, 1), arc(7, 3, 1),
	}}
	isFull(t, n, 0, 3, 2, 1, 0, 1, 1, 1, 1, 1, 1, 1)
	slices.Reverse(n.Arcs)
	isFull(t, n, 0, 3, 2, 1, 1, 1, 1, 1, 1, 1, 0, 1)
	// The same with 2 to undo, of 5.
	for i := range n.Arcs {
		n.Arcs[i].Cap = 5
	}
	n.Arcs[0].Cap, n.Arcs[3].Cap = 2, 2
	isFull(t, n, 0, 3, 7, 2, 2, 2, 2, 2, 2, 5, 3, 5)
}

func TestPathsAreUndoneAgainAndAgain(t *testing.T) {
	// Of two rows, each leads on only at its end, and what goes over from the one
	// to the other must be taken back at each place.
	for rungs := 1; rungs <= 24; rungs++ {
		n := api.Net{Nodes: 2*rungs + 2}
		up, down := func(i int) int { return 1 + i }, func(i int) int { return 1 + rungs + i }
		last := n.Nodes - 1
		n.Arcs = append(n.Arcs, arc(0, up(0), 1), arc(down(rungs-1), last, 1))
		for i := range rungs {
			n.Arcs = append(n.Arcs, arc(up(i), down(i), 1))
			if i > 0 {
				n.Arcs = append(n.Arcs, arc(up(i-1), up(i), 1), arc(down(i-1), down(i), 1))
			}
		}
		isMost(t, n, 0, last, 1)
		n.Arcs = append(n.Arcs, arc(0, down(0), 1), arc(up(rungs-1), last, 1))
		isMost(t, n, 0, last, 2)
		slices.Reverse(n.Arcs)
		isMost(t, n, 0, last, 2)
	}
}

func TestNarrowBridgeBetweenWidePaths(t *testing.T) {
	// Paths over the bridge, forth and back in turn, would take 2^21 of them.
	n := api.Net{Nodes: 4, Arcs: []api.Arc{arc(1, 2, 1), arc(0, 1, twenty), arc(0, 2, twenty), arc(1, 3, twenty), arc(2, 3, twenty)}}
	for range 5 {
		isFull(t, n, 0, 3, 2*twenty, append([]int{0}, slices.Repeat([]int{twenty}, 4)...)...)
		n.Arcs[0].From, n.Arcs[0].To = n.Arcs[0].To, n.Arcs[0].From
	}
}

func TestManyLevels(t *testing.T) {
	// From 0 directly, and over each longer part of the line: 49 lengths of paths.
	n := line(50, 1)
	for node := 2; node < 50; node++ {
		n.Arcs = append(n.Arcs, arc(0, node, 1))
	}
	isMost(t, n, 0, 49, 2)
	for i := range 49 {
		n.Arcs[i].Cap = 100
	}
	isMost(t, n, 0, 49, 101)
	// And directly to 49 from each node, so that each length of path adds one.
	each := line(50, 48)
	for node := range 48 {
		each.Arcs = append(each.Arcs, arc(node, 49, 1))
	}
	isMost(t, each, 0, 49, 49)
	// No more than what each length needs.
	var full []int
	for place := range 49 {
		each.Arcs[place].Cap = max(1, 48-place)
		full = append(full, each.Arcs[place].Cap)
	}
	full = append(full, slices.Repeat([]int{1}, 48)...)
	isFull(t, each, 0, 49, 49, full...)
	slices.Reverse(each.Arcs)
	slices.Reverse(full)
	isFull(t, each, 0, 49, 49, full...)
	each.Arcs = each.Arcs[:len(each.Arcs)-1]
	isMost(t, each, 0, 49, 1)
}

func TestManyPathsOfTheSameLevel(t *testing.T) {
	star := api.Net{Nodes: 50}
	var full []int
	for node := 1; node < 49; node++ {
		star.Arcs = append(star.Arcs, arc(0, node, node), arc(node, 49, 49-node))
		k := min(node, 49-node)
		full = append(full, k, k)
	}
	isFull(t, star, 0, 49, 24*25, full...)
	isMost(t, star, 49, 0, 0)
	// Two rows of 12, each node of the one with arcs to seven of the other.
	rows := api.Net{Nodes: 26}
	for i := range 12 {
		rows.Arcs = append(rows.Arcs, arc(0, 1+i, 7), arc(13+i, 25, 7))
		for j := range 7 {
			rows.Arcs = append(rows.Arcs, arc(1+i, 13+(i+5*j)%12, 1))
		}
	}
	isMost(t, rows, 0, 25, 84)
	rows.Arcs = slices.DeleteFunc(rows.Arcs, func(a api.Arc) bool { return a.From == 3 })
	isMost(t, rows, 0, 25, 77)
}

func TestDeadEnds(t *testing.T) {
	// At each node of the line, the first arc leads to nodes from which none leads
	// on, or only one that is too narrow.
	n := api.Net{Nodes: 50}
	for node := range 24 {
		n.Arcs = append(n.Arcs, arc(node, 25+node, twenty), arc(node, 25+node, 1), arc(node, node+1, 10))
	}
	isMost(t, n, 0, 24, 10)
	for node := range 23 {
		n.Arcs = append(n.Arcs, arc(25+node, 25+node+1, twenty))
	}
	isMost(t, n, 0, 24, 10)
	n.Arcs = append(n.Arcs, arc(48, 24, 3))
	isMost(t, n, 0, 24, 13)
}

func TestStepsTriedInVainAreTriedAgain(t *testing.T) {
	// While the path over 1 is the shortest, the arc 2-3 leads no level further;
	// afterwards it does, and all that is left goes along it.
	n := api.Net{Nodes: 5, Arcs: []api.Arc{arc(0, 1, 4), arc(0, 2, 4), arc(1, 4, 1), arc(2, 3, 4), arc(1, 3, 4), arc(3, 4, 9), arc(2, 1, 1)}}
	isMost(t, n, 0, 4, 8)
	isMost(t, n, 2, 4, 5)
	isMost(t, n, 1, 4, 5)
	// 1-4 is too narrow for what comes to 1, and later 1-2 takes the rest.
	rest := api.Net{Nodes: 5, Arcs: []api.Arc{arc(0, 1, 9), arc(1, 4, 1), arc(1, 2, 2), arc(2, 4, 1), arc(1, 3, 7), arc(2, 3, 1), arc(3, 4, 7)}}
	isMost(t, rest, 0, 4, 9)
}

func TestLevelsRise(t *testing.T) {
	next := numbers(93)
	phases := 0
	for _, n := range nets() {
		if n.Nodes < 2 {
			continue
		}
		s := next(n.Nodes)
		sink := (s + 1 + next(n.Nodes-1)) % n.Nodes
		in, last := empty(n), 0
		for in.rise(s, sink) {
			clear(in.tried)
			if in.levels[sink] <= last {
				t.Fatalf("Ways: %v from %d to %d: level %d after %d", n, s, sink, in.levels[sink], last)
			}
			last, phases = in.levels[sink], phases+1
			for {
				path, ok := in.descend(s, sink)
				if !ok {
					break
				}
				if len(path) != last {
					t.Fatalf("Ways: %v from %d to %d: %v at level %d", n, s, sink, path, last)
				}
				in.fill(path)
			}
		}
		value, err := static.Check(n, s, sink, in.flow)
		if again, _ := Most(n, s, sink); value != again || err != api.OK {
			t.Fatalf("Ways: %v from %d to %d: %d %d, want %d", n, s, sink, value, err, again)
		}
	}
	if phases < 200 {
		t.Errorf("only %d times were levels built", phases)
	}
}

func TestAnArcMore(t *testing.T) {
	next := numbers(94)
	equal, full, between := 0, 0, 0
	for range 3000 {
		n := mixed(next, 2+next(12), next(40))
		if next(3) == 0 {
			n = layered(next, 1+next(4), 1+next(3), 10+next(30))
		}
		s := next(n.Nodes)
		sink := (s + 1 + next(n.Nodes-1)) % n.Nodes
		before := testMax(t, n, s, sink)
		a := arc(next(n.Nodes), next(n.Nodes), 1+next(12))
		n.Arcs = slices.Insert(slices.Clone(n.Arcs), next(len(n.Arcs)+1), a)
		switch after := testMax(t, n, s, sink); {
		case after < before || after > before+a.Cap:
			t.Fatalf("I3: %v from %d to %d: %d, but %d without %v", n, s, sink, after, before, a)
		case after == before:
			equal++
		case after == before+a.Cap:
			full++
		default:
			between++
		}
	}
	if equal < 50 || full < 50 || between < 50 {
		t.Errorf("only %d, %d and %d arcs that make nothing, their Cap and something between", equal, full, between)
	}
}

func TestArcsMoreThatMakeAllOrNothing(t *testing.T) {
	next := numbers(95)
	for _, n := range nets() {
		if n.Nodes < 2 || len(n.Arcs) == 200 {
			continue
		}
		before, _ := Most(n, 0, n.Nodes-1)
		for _, c := range []struct{ from, to, more int }{
			{0, n.Nodes - 1, 7}, {n.Nodes - 1, 0, 0}, {0, 0, 0}, {n.Nodes - 1, n.Nodes - 1, 0}, {next(n.Nodes), 0, 0}, {n.Nodes - 1, next(n.Nodes), 0},
		} {
			m := n
			m.Arcs = append(slices.Clone(n.Arcs), arc(c.from, c.to, 7))
			isMost(t, m, 0, n.Nodes-1, before+c.more)
			m.Arcs[len(n.Arcs)].Cap = 0
			isMost(t, m, 0, n.Nodes-1, before)
		}
	}
}

func TestTurnedNets(t *testing.T) {
	next := numbers(96)
	for _, n := range nets() {
		if n.Nodes < 2 {
			continue
		}
		for range 5 {
			s := next(n.Nodes)
			sink := (s + 1 + next(n.Nodes-1)) % n.Nodes
			isMost(t, turned(n), sink, s, testMax(t, n, s, sink))
		}
		isMost(t, turned(n), n.Nodes-1, 0, testMax(t, n, 0, n.Nodes-1))
	}
}

func TestTimesAndHoldMakeNoDifference(t *testing.T) {
	next := numbers(97)
	for _, n := range nets() {
		other := api.Net{Nodes: n.Nodes, Hold: !n.Hold, Arcs: slices.Clone(n.Arcs)}
		for i := range other.Arcs {
			other.Arcs[i].Time = next(twenty + 1)
		}
		s, sink := next(n.Nodes), next(n.Nodes)
		value, err := Most(n, s, sink)
		if again, errAgain := Most(other, s, sink); again != value || errAgain != err {
			t.Errorf("I1: %v with other Times from %d to %d: %d %d, want %d %d", n, s, sink, again, errAgain, value, err)
		}
	}
}

func TestOrderOfArcsMakesNoDifference(t *testing.T) {
	next := numbers(98)
	for _, n := range nets() {
		if n.Nodes < 2 {
			continue
		}
		value, _ := Most(n, 0, n.Nodes-1)
		other := n
		other.Arcs = slices.Clone(n.Arcs)
		slices.Reverse(other.Arcs)
		isMost(t, other, 0, n.Nodes-1, value)
		for i := range other.Arcs {
			j := next(i + 1)
			other.Arcs[i], other.Arcs[j] = other.Arcs[j], other.Arcs[i]
		}
		isMost(t, other, 0, n.Nodes-1, value)
	}
}

func TestArgumentsStay(t *testing.T) {
	all := append(nets(), api.Net{}, api.Net{Nodes: 51, Arcs: someArcs(3)}, api.Net{Nodes: 1, Arcs: someArcs(202)},
		api.Net{Nodes: 2, Arcs: []api.Arc{{To: 1}, {To: 2}, {Cap: 1}, {Cap: twenty + 1}}})
	for i, n := range all {
		arcs := slices.Clone(n.Arcs)
		shorter := n
		shorter.Arcs = n.Arcs[:len(n.Arcs)/2]
		for _, ends := range [][2]int{{0, n.Nodes - 1}, {n.Nodes - 1, 0}, {0, 0}, {-1, most}} {
			Max(n, ends[0], ends[1])
			Most(n, ends[0], ends[1])
			Max(shorter, ends[0], ends[1])
			Most(shorter, ends[0], ends[1])
		}
		if !slices.Equal(n.Arcs, arcs) {
			t.Fatalf("R3: network %d: %v became %v", i, arcs, n.Arcs)
		}
	}
}

func TestResultsAreApart(t *testing.T) {
	n := line(4, 5)
	for range 3 {
		isFull(t, n, 0, 3, 5, 5, 5, 5)
		isFull(t, n, 3, 0, 0, 0, 0, 0)
		for _, ends := range [][2]int{{0, 3}, {3, 0}} {
			f, _, _ := Max(n, ends[0], ends[1])
			for i := range f[:cap(f)] {
				f[:cap(f)][i] = -7
			}
		}
		if !slices.Equal(n.Arcs, line(4, 5).Arcs) {
			t.Fatalf("R3: a change of the results made the arcs %v", n.Arcs)
		}
	}
}

func TestEarlierCallsMakeNoDifference(t *testing.T) {
	next := numbers(99)
	for _, n := range nets() {
		s, sink := next(n.Nodes), next(n.Nodes)
		f, value, err := Max(n, s, sink)
		isRefused(t, api.Net{Nodes: 51}, 0, 1, api.ErrLimit)
		isMost(t, line(50, 3), 0, 49, 3)
		if g, again, errAgain := Max(n, s, sink); !slices.Equal(f, g) || again != value || errAgain != err {
			t.Errorf("R4: %v from %d to %d: %v %d %d, before %v %d %d", n, s, sink, g, again, errAgain, f, value, err)
		}
	}
}

func TestExamples(t *testing.T) {
	n := api.Net{Nodes: 4, Arcs: []api.Arc{arc(0, 1, 3), arc(0, 2, 2), arc(1, 3, 2), arc(2, 3, 3), arc(1, 2, 5)}}
	isFull(t, n, 0, 3, 5, 3, 2, 2, 3, 1)
	isFull(t, n, 3, 0, 0, 0, 0, 0, 0, 0)
}
