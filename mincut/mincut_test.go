package mincut

import (
	"math"
	"slices"
	"testing"

	"ebbtide/api"
	"ebbtide/level"
	"ebbtide/maxflow"
	"ebbtide/netfmt"
	"ebbtide/static"
)

const (
	most  = math.MaxInt64
	least = math.MinInt64
	// twenty is what an arc's Cap and Time may be at most.
	twenty = 1048576
)

// numbers returns a function that returns one number after the other, the same
// ones in each run.
func numbers(seed uint64) func(below int) int {
	return func(below int) int {
		seed = seed*6364136223846793005 + 1442695040888963407
		return int(seed>>33) % below
	}
}

// arc returns an arc with a Time that should make no difference.
func arc(from, to, width int) api.Arc {
	return api.Arc{From: from, To: to, Cap: width, Time: 3*from + to}
}

// The plain ways of working out what the chapter asks for, each by another
// method than the package's. The networks that they are given are right. In
// them a set of nodes is given by the bits of a number.

// has reports whether a node is in a set.
func has(set uint64, node int) bool {
	return set>>node&1 == 1
}

// setOf returns the set of a side.
func setOf(side []bool) uint64 {
	set := uint64(0)
	for node := len(side) - 1; node >= 0; node-- {
		set *= 2
		if side[node] {
			set++
		}
	}
	return set
}

// sideFrom returns the side of a set.
func sideFrom(set uint64, nodes int) []bool {
	side := make([]bool, nodes)
	for node := range side {
		side[node] = has(set, node)
	}
	return side
}

// some returns the side of that many nodes with those in it.
func some(nodes int, inside ...int) []bool {
	side := make([]bool, nodes)
	for _, node := range inside {
		side[node] = true
	}
	return side
}

// crossing returns how much can leave a set.
func crossing(n api.Net, set uint64) int {
	sum := 0
	for _, a := range n.Arcs {
		if has(set, a.From) && !has(set, a.To) {
			sum += a.Cap
		}
	}
	return sum
}

// reached returns the nodes that are reached from s by steps with room, by going
// over all arcs until nothing is added.
func reached(n api.Net, f []int, s int) uint64 {
	set := uint64(1) << s
	for range n.Nodes {
		for i, a := range n.Arcs {
			if f[i] < a.Cap && has(set, a.From) {
				set |= 1 << a.To
			}
			if f[i] > 0 && has(set, a.To) {
				set |= 1 << a.From
			}
		}
	}
	return set
}

// leastOfAllSides returns the least that can leave a set with s and without t,
// and all sets that so little can leave, by trying all sets.
func leastOfAllSides(n api.Net, s, t int) (capacity int, sets []uint64) {
	capacity = most
	for set := range uint64(1) << n.Nodes {
		if !has(set, s) || has(set, t) {
			continue
		}
		k := crossing(n, set)
		if k < capacity {
			capacity, sets = k, nil
		}
		if k == capacity {
			sets = append(sets, set)
		}
	}
	return capacity, sets
}

// rooms is how much room there is from each node to each.
type rooms [50][50]int

// roomsOf returns the rooms of a network without a flow.
func roomsOf(n api.Net) rooms {
	var r rooms
	for _, a := range n.Arcs {
		r[a.From][a.To] += a.Cap
	}
	return r
}

// wide moves k from a node to t on a way with room for k at each step, over nodes
// where it has not been, and reports whether there is one.
func (r *rooms) wide(node, t, k int, been *[50]bool) bool {
	if node == t {
		return true
	}
	been[node] = true
	for to := range r[node] {
		if r[node][to] >= k && !been[to] && r.wide(to, t, k, been) {
			r[node][to] -= k
			r[to][node] += k
			return true
		}
	}
	return false
}

// value returns the greatest value by ways of any length, the widest first: 2^40
// is more than all that is asked for, and is halved when no way has room for it.
func (r rooms) value(s, t int) int {
	sum := 0
	for k := 1 << 40; k > 0; k /= 2 {
		for r.wide(s, t, k, new([50]bool)) {
			sum += k
		}
	}
	return sum
}

// leastAnew returns the least capacity, and the least set that has it: a node is
// in each such set if more would arrive were the node joined to t.
func leastAnew(n api.Net, s, t int) (capacity int, set uint64) {
	r := roomsOf(n)
	capacity = r.value(s, t)
	for node := range n.Nodes {
		joined := r
		joined[node][t] = 1 << 39
		if node == s || node != t && joined.value(s, t) > capacity {
			set |= 1 << node
		}
	}
	return capacity, set
}

// isFlow reports whether f is a flow from s to the sink, and returns its value.
func isFlow(n api.Net, s, sink int, f []int) (value int, ok bool) {
	stays := make([]int, n.Nodes)
	for i, a := range n.Arcs {
		if f[i] < 0 || f[i] > a.Cap {
			return 0, false
		}
		stays[a.From] -= f[i]
		stays[a.To] += f[i]
	}
	value = stays[sink]
	stays[s], stays[sink] = 0, 0
	return value, !slices.ContainsFunc(stays, func(k int) bool { return k != 0 })
}

// turned returns the network with the ends of its arcs exchanged.
func turned(n api.Net) api.Net {
	n.Arcs = slices.Clone(n.Arcs)
	for i, a := range n.Arcs {
		n.Arcs[i].From, n.Arcs[i].To = a.To, a.From
	}
	return n
}

// What fails unless a call answers as the chapter asks.

// isSideRefused fails unless Side returns the error and nothing else.
func isSideRefused(t *testing.T, n api.Net, f []int, s int, want api.Errno) {
	t.Helper()
	if side, err := Side(n, f, s); len(side) != 0 || err != want {
		t.Errorf("J1: %d nodes, %d arcs, flow of %d, from %d: %v %d, want %d", n.Nodes, len(n.Arcs), len(f), s, side, err, want)
	}
}

// isCapacityRefused fails unless Capacity returns the error and nothing else.
func isCapacityRefused(t *testing.T, n api.Net, side []bool, want api.Errno) {
	t.Helper()
	if k, err := Capacity(n, side); k != 0 || err != want {
		t.Errorf("J2: %d nodes, %d arcs, side of %d: %d %d, want %d", n.Nodes, len(n.Arcs), len(side), k, err, want)
	}
}

// isLeastRefused fails unless Least returns the error and nothing else.
func isLeastRefused(t *testing.T, n api.Net, s, sink int, want api.Errno) {
	t.Helper()
	if side, k, err := Least(n, s, sink); len(side) != 0 || k != 0 || err != want {
		t.Errorf("J3: %d nodes, %d arcs, from %d to %d: %v %d %d, want %d", n.Nodes, len(n.Arcs), s, sink, side, k, err, want)
	}
}

// isSide fails unless Side returns those nodes.
func isSide(t *testing.T, n api.Net, f []int, s int, inside ...int) {
	t.Helper()
	if side, err := Side(n, f, s); !slices.Equal(side, some(n.Nodes, inside...)) || err != api.OK {
		t.Errorf("J1: %v of %v from %d: %v %d, want %v", f, n, s, side, err, inside)
	}
}

// isCapacity fails unless that is the capacity of the side with those nodes.
func isCapacity(t *testing.T, n api.Net, want int, inside ...int) {
	t.Helper()
	if k, err := Capacity(n, some(n.Nodes, inside...)); k != want || err != api.OK {
		t.Errorf("J2: %v of %v: %d %d, want %d", inside, n, k, err, want)
	}
}

// isLeast fails unless that is the least capacity and those are the nodes of the
// least side that has it.
func isLeast(t *testing.T, n api.Net, s, sink, want int, inside ...int) {
	t.Helper()
	testLeast(t, n, s, sink)
	if side, k, _ := Least(n, s, sink); !slices.Equal(side, some(n.Nodes, inside...)) || k != want {
		t.Errorf("J3: %v from %d to %d: %v %d, want %v %d", n, s, sink, side, k, inside, want)
	}
}

// testSide holds Side against J1, and returns the side.
func testSide(t *testing.T, n api.Net, f []int, s int) []bool {
	t.Helper()
	if s < 0 || s >= n.Nodes {
		isSideRefused(t, n, f, s, api.ErrArg)
		return nil
	}
	side, err := Side(n, f, s)
	if want := sideFrom(reached(n, f, s), n.Nodes); !slices.Equal(side, want) || err != api.OK {
		t.Fatalf("J1: %v of %v from %d: %v %d, want %v", f, n, s, side, err, want)
	}
	levels, _ := level.Levels(n, f, s)
	for node, far := range levels {
		if side[node] != (far >= 0) {
			t.Fatalf("J1: %v of %v from %d: %v, but levels %v", f, n, s, side, levels)
		}
	}
	return side
}

// testCapacity holds Capacity against J2.
func testCapacity(t *testing.T, n api.Net, set uint64) {
	t.Helper()
	if k, err := Capacity(n, sideFrom(set, n.Nodes)); k != crossing(n, set) || err != api.OK {
		t.Fatalf("J2: %b of %v: %d %d, want %d", set, n, k, err, crossing(n, set))
	}
}

// testLeast holds Least against what J3 and J4 say of its result alone and of
// greatest flows, and returns the capacity.
func testLeast(t *testing.T, n api.Net, s, sink int) int {
	t.Helper()
	if s < 0 || s >= n.Nodes || sink < 0 || sink >= n.Nodes || s == sink {
		isLeastRefused(t, n, s, sink, api.ErrEnds)
		return 0
	}
	side, k, err := Least(n, s, sink)
	if err != api.OK || len(side) != n.Nodes || !side[s] || side[sink] {
		t.Fatalf("J3: %v from %d to %d: %v %d %d", n, s, sink, side, k, err)
	}
	if again, err := Capacity(n, side); again != k || err != api.OK || k != crossing(n, setOf(side)) {
		t.Fatalf("J3: %v from %d to %d: %v %d, but Capacity %d %d", n, s, sink, side, k, again, err)
	}
	f, value, _ := maxflow.Max(n, s, sink)
	if again, _ := maxflow.Most(n, s, sink); value != k || again != k {
		t.Fatalf("J4: %v from %d to %d: %v %d, but values %d and %d", n, s, sink, side, k, value, again)
	}
	if again, err := Side(n, f, s); !slices.Equal(again, side) || err != api.OK {
		t.Fatalf("J4: %v from %d to %d: %v, but Side of %v is %v %d", n, s, sink, side, f, again, err)
	}
	return k
}

// testLeastAnew holds Least against J3 by joining each node to the sink.
func testLeastAnew(t *testing.T, n api.Net, s, sink int) {
	t.Helper()
	testLeast(t, n, s, sink)
	k, set := leastAnew(n, s, sink)
	if side, got, _ := Least(n, s, sink); got != k || setOf(side) != set {
		t.Fatalf("J3: %v from %d to %d: %b %d, want %b %d", n, s, sink, setOf(side), got, set, k)
	}
}

// testLeastOfAll holds Least against J3 by trying all sides, and returns how many
// have the least capacity.
func testLeastOfAll(t *testing.T, n api.Net, s, sink int) int {
	t.Helper()
	testLeast(t, n, s, sink)
	side, k, _ := Least(n, s, sink)
	want, sets := leastOfAllSides(n, s, sink)
	if k != want || !slices.Contains(sets, setOf(side)) {
		t.Fatalf("J3: %v from %d to %d: %v %d, want %d of one of %b", n, s, sink, side, k, want, sets)
	}
	for _, set := range sets {
		if setOf(side)&^set != 0 {
			t.Fatalf("J3: %v from %d to %d: %b is not within %b", n, s, sink, setOf(side), set)
		}
	}
	return len(sets)
}

// Networks, flows and numbers to hold the calls against.

// someArcs returns so many arcs from 0 to itself.
func someArcs(n int) []api.Arc {
	l := make([]api.Arc, n)
	for i := range l {
		l[i] = api.Arc{Cap: i, Time: 2 * i}
	}
	return l
}

// line returns a network whose arcs lead from each node to the one after it,
// with that Cap.
func line(nodes, width int) api.Net {
	n := api.Net{Nodes: nodes}
	for node := 1; node < nodes; node++ {
		n.Arcs = append(n.Arcs, arc(node-1, node, width))
	}
	return n
}

// upTo returns the nodes from 0 to one less than that.
func upTo(nodes int) []int {
	var l []int
	for node := range nodes {
		l = append(l, node)
	}
	return l
}

// mixed returns a network of that many nodes and arcs of all kinds.
func mixed(next func(below int) int, nodes, arcs int) api.Net {
	edges := []int{0, 1, 2, 3, 7, 1000, twenty - 1, twenty}
	n := api.Net{Nodes: nodes, Hold: next(2) == 0}
	for range arcs {
		n.Arcs = append(n.Arcs, api.Arc{From: next(nodes), To: next(nodes), Cap: edges[next(len(edges))], Time: edges[next(len(edges))]})
	}
	return n
}

// layered returns a network with that many layers of so many nodes each, between
// 0 and the last node, with arcs to the same, the next and the previous layer.
func layered(next func(below int) int, layers, width, arcs int) api.Net {
	n := api.Net{Nodes: layers*width + 2}
	for node := range width {
		n.Arcs = append(n.Arcs, arc(0, 1+node, 3+next(9)), arc(n.Nodes-2-node, n.Nodes-1, 3+next(9)))
	}
	for len(n.Arcs) < arcs {
		from := next(layers)
		to := max(0, min(from-1+next(4), layers-1))
		n.Arcs = append(n.Arcs, arc(1+from*width+next(width), 1+to*width+next(width), 1+next(5)))
	}
	return n
}

// nets returns networks that are right, the smallest and the greatest among
// them.
func nets() []api.Net {
	out := []api.Net{
		{Nodes: 1}, {Nodes: 1, Hold: true, Arcs: []api.Arc{}}, {Nodes: 1, Arcs: someArcs(1)}, {Nodes: 1, Arcs: someArcs(200)},
		{Nodes: 2}, {Nodes: 50}, {Nodes: 50, Arcs: someArcs(200)}, line(50, 0), line(50, 1), line(50, twenty), line(2, 1),
		{Nodes: 2, Arcs: []api.Arc{{To: 1, Cap: 7}, {To: 1, Cap: 2, Time: 5}, {To: 1, Cap: 2, Time: 5}, {To: 1}}},
		{Nodes: 2, Arcs: []api.Arc{{To: 1, Cap: 4}, {From: 1, Cap: 6}, {From: 1, To: 1, Cap: 1}}},
	}
	next := numbers(10)
	for nodes := 1; nodes <= 50; nodes++ {
		for _, arcs := range []int{nodes / 2, nodes, 2 * nodes, next(201), 200} {
			out = append(out, mixed(next, nodes, min(arcs, 200)))
		}
	}
	for layers := 1; layers <= 12; layers++ {
		width := 48 / layers
		out = append(out, layered(next, layers, width, 200), layered(next, layers, min(width, 4), 60+next(60)))
	}
	return out
}

// refusedNet is a network that Check refuses, and its error.
type refusedNet struct {
	net  api.Net
	want api.Errno
}

// refused returns networks that Check refuses with each of its errors, alone and
// ahead of one another.
func refused() []refusedNet {
	right := api.Arc{To: 1, Cap: 3, Time: 4}
	wrong := api.Arc{From: 2, To: 1}
	great := api.Arc{To: 1, Time: twenty + 1}
	var out []refusedNet
	for _, c := range []struct {
		nodes int
		arcs  []api.Arc
		want  api.Errno
	}{
		{0, nil, api.ErrNet}, {-1, nil, api.ErrNet}, {least, nil, api.ErrNet}, {0, []api.Arc{great}, api.ErrNet}, {0, someArcs(201), api.ErrNet},
		{51, nil, api.ErrLimit}, {most, nil, api.ErrLimit}, {51, []api.Arc{wrong}, api.ErrLimit},
		{1, someArcs(201), api.ErrLimit}, {50, someArcs(5000), api.ErrLimit}, {2, append([]api.Arc{wrong}, someArcs(200)...), api.ErrLimit},
		{2, []api.Arc{{From: -1}}, api.ErrNet}, {2, []api.Arc{{From: 2}}, api.ErrNet}, {2, []api.Arc{{From: least}}, api.ErrNet},
		{2, []api.Arc{{To: -1}}, api.ErrNet}, {2, []api.Arc{{To: 2}}, api.ErrNet}, {2, []api.Arc{{To: most}}, api.ErrNet},
		{2, []api.Arc{{Cap: -1}}, api.ErrNet}, {2, []api.Arc{{Time: -1}}, api.ErrNet}, {2, []api.Arc{{To: 1, Time: least}}, api.ErrNet},
		{2, []api.Arc{{Cap: twenty + 1}}, api.ErrLimit}, {2, []api.Arc{{Time: twenty + 1}}, api.ErrLimit}, {2, []api.Arc{{To: 1, Cap: most}}, api.ErrLimit},
		{2, []api.Arc{right, wrong, great}, api.ErrNet}, {2, []api.Arc{right, great, wrong}, api.ErrLimit},
		{2, append(someArcs(199), wrong), api.ErrNet}, {2, append(someArcs(199), great), api.ErrLimit},
	} {
		out = append(out, refusedNet{api.Net{Nodes: c.nodes, Arcs: c.arcs}, c.want})
	}
	return out
}

// numbersAround returns numbers that may be nodes, and ones that are none.
func numbersAround(nodes int) []int {
	return []int{0, nodes - 1, nodes / 2, -1, nodes, nodes + 1, -nodes, 50, 51, 1 << 32, -1 << 32, most, least}
}

// zero returns the flow of zeros.
func zero(n api.Net) []int {
	return make([]int, len(n.Arcs))
}

// full returns the flow in which each arc has as much as its Cap.
func full(n api.Net) []int {
	f := zero(n)
	for i, a := range n.Arcs {
		f[i] = a.Cap
	}
	return f
}

// anyFlow returns a flow with many arcs at 0 or at their Caps, which need not be
// balanced.
func anyFlow(next func(below int) int, n api.Net) []int {
	f := full(n)
	for i, width := range f {
		f[i] = []int{0, next(width + 1), width}[next(3)]
	}
	return f
}

// products calls do with each list that has so many of the items.
func products[T any](items []T, length int, do func(l []T)) {
	l := make([]T, length)
	var fill func(place int)
	fill = func(place int) {
		if place == length {
			do(l)
			return
		}
		for _, x := range items {
			l[place] = x
			fill(place + 1)
		}
	}
	fill(0)
}

// J1.

func TestSideOfManyNets(t *testing.T) {
	next := numbers(101)
	all, alone, between := 0, 0, 0
	for _, n := range nets() {
		for _, f := range [][]int{zero(n), full(n), anyFlow(next, n)} {
			for s := range n.Nodes {
				side := testSide(t, n, f, s)
				switch inside := len(slices.DeleteFunc(side, func(in bool) bool { return !in })); inside {
				case n.Nodes:
					all++
				case 1:
					alone++
				default:
					between++
				}
			}
		}
	}
	if all < 500 || alone < 500 || between < 500 {
		t.Errorf("only %d, %d and %d sides with all nodes, s alone and something between", all, alone, between)
	}
}

func TestSideOfAllSmallNets(t *testing.T) {
	// Each arc with room along, back, both or none.
	type loaded struct{ from, to, width, flow int }
	var arcs []loaded
	for place := range 36 {
		arcs = append(arcs, loaded{place % 3, place / 3 % 3, []int{2, 2, 2, 0}[place/9], []int{0, 1, 2, 0}[place/9]})
	}
	for length := range 4 {
		products(arcs, length, func(l []loaded) {
			n, f := api.Net{Nodes: 3}, []int{}
			for _, x := range l {
				n.Arcs = append(n.Arcs, arc(x.from, x.to, x.width))
				f = append(f, x.flow)
			}
			testSide(t, n, f, 0)
		})
	}
}

func TestSideOfEachNode(t *testing.T) {
	next := numbers(102)
	for _, n := range nets() {
		for _, f := range [][]int{zero(n), anyFlow(next, n)} {
			for _, s := range numbersAround(n.Nodes) {
				testSide(t, n, f, s)
			}
		}
	}
	for _, s := range []int{-1, 50, 51, -50, 1 << 32, most, least} {
		isSideRefused(t, line(50, 3), make([]int, 49), s, api.ErrArg)
	}
	for nodes := 1; nodes <= 50; nodes++ {
		n := line(nodes, 2)
		f := slices.Repeat([]int{1}, nodes-1)
		isSide(t, n, f, 0, upTo(nodes)...)
		isSide(t, n, f, nodes-1, upTo(nodes)...)
		isSide(t, n, zero(n), nodes-1, nodes-1)
		isSide(t, n, full(n), 0, 0)
		isSideRefused(t, n, f, -1, api.ErrArg)
		isSideRefused(t, n, f, nodes, api.ErrArg)
	}
}

func TestSideOfWhatIsNoFlow(t *testing.T) {
	for _, n := range []api.Net{line(2, 0), line(2, 5), line(50, twenty), {Nodes: 1, Arcs: someArcs(200)}, {Nodes: 3, Arcs: []api.Arc{arc(0, 1, 2), arc(1, 2, 0), arc(2, 2, 7)}}} {
		good, last := full(n), len(n.Arcs)-1
		wrong := [][]int{nil, {}, good[:last], append(slices.Clone(good), 0), slices.Repeat(good, 2), make([]int, 1000)}
		for _, place := range []int{0, last / 2, last} {
			for _, k := range []int{-1, least, n.Arcs[place].Cap + 1, twenty + 1, 1 << 32, most} {
				f := slices.Clone(good)
				f[place] = k
				wrong = append(wrong, f)
			}
		}
		for _, f := range wrong {
			// ErrFlow comes ahead of the error of s.
			for _, s := range numbersAround(n.Nodes) {
				isSideRefused(t, n, f, s, api.ErrFlow)
			}
		}
		testSide(t, n, good, 0)
	}
	for _, nodes := range []int{1, 2, 50} {
		n := api.Net{Nodes: nodes}
		for _, s := range numbersAround(nodes) {
			testSide(t, n, nil, s)
			testSide(t, n, []int{}, s)
			isSideRefused(t, n, []int{0}, s, api.ErrFlow)
		}
		isSide(t, n, nil, 0, 0)
		isSide(t, n, nil, nodes-1, nodes-1)
	}
}

func TestSideByStepsBack(t *testing.T) {
	// From 0 along to 1, back to 2, and from there on along and back.
	n := api.Net{Nodes: 6, Arcs: []api.Arc{arc(0, 1, 1), arc(2, 1, 1), arc(2, 3, 4), arc(4, 3, 2), arc(5, 4, 1)}}
	isSide(t, n, []int{0, 1, 3, 1, 0}, 0, 0, 1, 2, 3, 4)
	isSide(t, n, []int{0, 1, 3, 0, 0}, 0, 0, 1, 2, 3)
	isSide(t, n, []int{0, 1, 4, 1, 1}, 0, 0, 1, 2)
	isSide(t, n, []int{0, 0, 3, 1, 1}, 0, 0, 1)
	isSide(t, n, []int{1, 1, 3, 1, 1}, 0, 0)
	isSide(t, n, []int{1, 1, 3, 2, 1}, 3, 2, 3, 4, 5)
	isSide(t, n, []int{1, 0, 3, 2, 1}, 3, 0, 1, 2, 3, 4, 5)
	// Back over the whole line.
	for nodes := 2; nodes <= 50; nodes++ {
		back := turned(line(nodes, 1))
		isSide(t, back, full(back), 0, upTo(nodes)...)
		isSide(t, back, zero(back), 0, 0)
		f := full(back)
		f[nodes/2-1] = 0
		isSide(t, back, f, 0, upTo(nodes/2)...)
	}
}

func TestSideNeedsRoom(t *testing.T) {
	for _, width := range []int{0, 1, 2, twenty} {
		n := api.Net{Nodes: 2, Arcs: []api.Arc{arc(0, 1, width)}}
		for _, k := range []int{0, width / 2, width} {
			side, err := Side(n, []int{k}, 0)
			if !slices.Equal(side, []bool{true, k < width}) || err != api.OK {
				t.Errorf("J1: %d of %d along: %v %d", k, width, side, err)
			}
			side, err = Side(n, []int{k}, 1)
			if !slices.Equal(side, []bool{k > 0, true}) || err != api.OK {
				t.Errorf("J1: %d of %d back: %v %d", k, width, side, err)
			}
		}
	}
}

// J2.

func TestCapacityOfManySides(t *testing.T) {
	next := numbers(103)
	positive := 0
	for _, n := range nets() {
		whole := uint64(1)<<n.Nodes - 1
		sets := []uint64{0, whole}
		for node := range n.Nodes {
			sets = append(sets, 1<<node, whole&^(1<<node), 1<<node-1, whole&^(1<<node-1))
		}
		for range 50 {
			sets = append(sets, (uint64(next(1<<25))<<25|uint64(next(1<<25)))&whole)
		}
		for _, set := range sets {
			testCapacity(t, n, set)
			if crossing(n, set) > 0 {
				positive++
			}
		}
		isCapacity(t, n, 0)
		isCapacity(t, n, 0, upTo(n.Nodes)...)
	}
	if positive < 5000 {
		t.Errorf("only %d capacities above 0", positive)
	}
}

func TestCapacityOfAllSmallNets(t *testing.T) {
	var arcs []api.Arc
	for place := range 27 {
		arcs = append(arcs, arc(place%3, place/3%3, place/9))
	}
	for length := range 4 {
		products(arcs, length, func(l []api.Arc) {
			for set := range uint64(8) {
				testCapacity(t, api.Net{Nodes: 3, Arcs: l}, set)
			}
		})
	}
}

func TestCapacityOfWrongSides(t *testing.T) {
	for _, n := range nets() {
		right := slices.Repeat([]bool{true}, n.Nodes)
		for _, side := range [][]bool{nil, {}, right[:n.Nodes-1], append(slices.Clone(right), false), append(slices.Clone(right), true), slices.Repeat(right, 2), make([]bool, 51), make([]bool, 1000)} {
			isCapacityRefused(t, n, side, api.ErrArg)
		}
		// What lies beyond the length of the side is not in it.
		isCapacityRefused(t, n, right[:0], api.ErrArg)
		isCapacity(t, n, 0, upTo(n.Nodes)...)
	}
}

func TestCapacityCountsOnlyWhatLeaves(t *testing.T) {
	// Each arc has a Cap of its own: of those within the side 1, 2 and 4, outside
	// 8, 16 and 32, into the side 64 and 128, out of it 256 and 512.
	n := api.Net{Nodes: 5, Arcs: []api.Arc{
		arc(0, 1, 1), arc(1, 0, 2), arc(1, 1, 4), arc(2, 3, 8), arc(4, 2, 16), arc(3, 3, 32),
		arc(2, 0, 64), arc(4, 1, 128), arc(0, 3, 256), arc(1, 4, 512), arc(0, 2, 0),
	}}
	isCapacity(t, n, 256+512, 0, 1)
	isCapacity(t, n, 64+128, 2, 3, 4)
	isCapacity(t, n, 0)
	isCapacity(t, n, 0, 0, 1, 2, 3, 4)
	isCapacity(t, n, 1+256, 0)
	isCapacity(t, n, 2+512, 1)
	isCapacity(t, n, 8+64, 2)
	isCapacity(t, n, 0, 3)
	isCapacity(t, n, 16+128, 4)
	isCapacity(t, n, 8+256, 2, 4, 0, 1)
}

func TestCapacityOfSeveralArcs(t *testing.T) {
	n := api.Net{Nodes: 2, Arcs: []api.Arc{arc(0, 1, 0), arc(0, 1, 2), arc(1, 0, 5), arc(0, 1, 2), arc(1, 0, 0), arc(0, 1, 3), arc(0, 0, 9), arc(1, 1, 9)}}
	isCapacity(t, n, 7, 0)
	isCapacity(t, n, 5, 1)
	n.Nodes = 50
	isCapacity(t, n, 7, 0)
	isCapacity(t, n, 7, 0, 49)
	isCapacity(t, n, 0, 49)
}

// J3.

func TestLeastOfManyNets(t *testing.T) {
	next := numbers(104)
	positive := 0
	for i, n := range nets() {
		if n.Nodes < 2 {
			testLeast(t, n, 0, 0)
			continue
		}
		if testLeast(t, n, 0, n.Nodes-1) > 0 {
			positive++
		}
		for range 5 {
			s := next(n.Nodes)
			sink := (s + 1 + next(n.Nodes-1)) % n.Nodes
			if testLeast(t, n, s, sink) > 0 {
				positive++
			}
			// Joining each node of each greater network would take too long.
			if n.Nodes <= 20 || i%5 == 0 {
				testLeastAnew(t, n, s, sink)
			}
		}
	}
	if positive < 500 {
		t.Errorf("only %d capacities above 0", positive)
	}
}

func TestLeastOfAllSmallNets(t *testing.T) {
	var arcs []api.Arc
	for place := range 27 {
		arcs = append(arcs, arc(place%3, place/3%3, place/9))
	}
	for length := range 4 {
		products(arcs, length, func(l []api.Arc) {
			n := api.Net{Nodes: 3, Arcs: l}
			testLeastOfAll(t, n, 0, 2)
			testLeastOfAll(t, n, 1, 0)
		})
	}
}

func TestLeastOfAllNetsOfFourNodes(t *testing.T) {
	// Between each two nodes, an arc one way, the other way, both or none, and
	// then with a greater Cap one way.
	pairs := [][2]int{{0, 1}, {0, 2}, {1, 2}, {1, 3}, {2, 3}}
	several := 0
	products([]int{0, 1, 2, 3, 4}, len(pairs), func(l []int) {
		n := api.Net{Nodes: 4}
		for i, p := range pairs {
			if l[i] != 0 && l[i] != 2 {
				n.Arcs = append(n.Arcs, arc(p[0], p[1], max(1, l[i]-1)))
			}
			if l[i] >= 2 {
				n.Arcs = append(n.Arcs, arc(p[1], p[0], 1))
			}
		}
		if testLeastOfAll(t, n, 0, 3) > 1 {
			several++
		}
	})
	if several < 500 {
		t.Errorf("only %d networks with several sides of the least capacity", several)
	}
}

func TestLeastOfManyMiddlingNets(t *testing.T) {
	next := numbers(105)
	several, positive := 0, 0
	for range 3000 {
		n := api.Net{Nodes: 2 + next(8)}
		for range next(4 * n.Nodes) {
			n.Arcs = append(n.Arcs, arc(next(n.Nodes), next(n.Nodes), next(6)))
		}
		s := next(n.Nodes)
		sink := (s + 1 + next(n.Nodes-1)) % n.Nodes
		sides := testLeastOfAll(t, n, s, sink)
		testLeastAnew(t, n, s, sink)
		if value, _ := maxflow.Most(n, s, sink); value > 0 {
			positive++
			several += min(sides-1, 1)
		}
	}
	if several < 200 || positive < 1000 {
		t.Errorf("only %d values above 0, %d of them with several sides of the least capacity", positive, several)
	}
}

func TestEnds(t *testing.T) {
	for _, n := range nets() {
		// All pairs of numbers in each greater network would take too long.
		if n.Nodes%10 > 1 {
			continue
		}
		for _, s := range numbersAround(n.Nodes) {
			for _, sink := range numbersAround(n.Nodes) {
				testLeast(t, n, s, sink)
			}
		}
	}
	for nodes := 1; nodes <= 50; nodes++ {
		n := line(nodes, 1)
		for s := -2; s <= nodes+1; s++ {
			isLeastRefused(t, n, s, s, api.ErrEnds)
			isLeastRefused(t, n, s, -1, api.ErrEnds)
			isLeastRefused(t, n, nodes, s, api.ErrEnds)
			isLeastRefused(t, n, s, most, api.ErrEnds)
			isLeastRefused(t, n, least, s, api.ErrEnds)
		}
	}
}

func TestSeveralSidesWithTheLeastCapacity(t *testing.T) {
	for nodes := 2; nodes <= 50; nodes++ {
		// Each part of the line has the same capacity.
		isLeast(t, line(nodes, 7), 0, nodes-1, 7, 0)
		isLeast(t, turned(line(nodes, 7)), nodes-1, 0, 7, nodes-1)
		for _, narrow := range []int{0, nodes / 3, nodes - 2} {
			// Two arcs are the narrowest: the first of them is at the least side.
			n := line(nodes, 9)
			n.Arcs[narrow].Cap, n.Arcs[nodes-2].Cap = 4, 4
			isLeast(t, n, 0, nodes-1, 4, upTo(narrow+1)...)
		}
	}
	// Only 1, only 2, both or none of them may be in the side.
	n := api.Net{Nodes: 4, Arcs: []api.Arc{arc(0, 1, 2), arc(0, 2, 3), arc(1, 3, 2), arc(2, 3, 3)}}
	isLeast(t, n, 0, 3, 5, 0)
	n.Arcs[0].Cap = 4
	isLeast(t, n, 0, 3, 5, 0, 1)
	n.Arcs[1].Cap = 4
	isLeast(t, n, 0, 3, 5, 0, 1, 2)
	n.Arcs[0].Cap = 2
	isLeast(t, n, 0, 3, 5, 0, 2)
}

func TestSideFilledByStepsBack(t *testing.T) {
	// What goes from 2 to 1 leads back from 1, where there is room to come, to 2,
	// where there is none; and from there on to 3.
	n := api.Net{Nodes: 5, Arcs: []api.Arc{arc(0, 1, 9), arc(0, 2, 1), arc(2, 1, 1), arc(1, 4, 1), arc(2, 3, 5), arc(3, 4, 0)}}
	isLeast(t, n, 0, 4, 1, 0, 1, 2, 3)
	isSide(t, n, []int{0, 1, 1, 1, 0, 0}, 0, 0, 1, 2, 3)
	isSide(t, n, []int{1, 0, 0, 1, 0, 0}, 0, 0, 1, 2, 3)
	// Without the arc from 0 to 2, nothing leads there.
	n.Arcs[1].Cap = 0
	isLeast(t, n, 0, 4, 1, 0, 1)
}

func TestSinkThatIsNotReached(t *testing.T) {
	// All arcs lead from the sink, to the source, or around behind a cut.
	n := api.Net{Nodes: 6, Arcs: []api.Arc{arc(5, 0, 9), arc(0, 1, 9), arc(1, 2, 9), arc(2, 0, 9), arc(3, 4, 9), arc(4, 5, 9), arc(5, 3, 9), arc(3, 1, 9)}}
	isLeast(t, n, 0, 5, 0, 0, 1, 2)
	isLeast(t, n, 5, 0, 18, 5)
	isLeast(t, n, 2, 5, 0, 0, 1, 2)
	// An arc without a Cap between the halves makes no difference, one with 1 does.
	n.Arcs = append(n.Arcs, arc(2, 4, 0))
	isLeast(t, n, 0, 5, 0, 0, 1, 2)
	n.Arcs[8].Cap = 1
	isLeast(t, n, 0, 5, 1, 0, 1, 2)
	// If more can come from 5 to 3, what leaves 3 is narrower.
	n.Arcs[6].Cap = 10
	isLeast(t, n, 5, 0, 18, 3, 4, 5)
	alone := api.Net{Nodes: 50, Arcs: line(49, twenty).Arcs}
	isLeast(t, alone, 0, 49, 0, upTo(49)...)
	isLeast(t, alone, 49, 0, 0, 49)
	isLeast(t, alone, 0, 48, twenty, 0)
	isLeast(t, alone, 20, 10, 0, upTo(49)[20:]...)
}

// J4.

func TestNoFlowIsAboveASide(t *testing.T) {
	next := numbers(106)
	flows, greatest := 0, 0
	for range 400 {
		n := api.Net{Nodes: 2 + next(3)}
		for range 1 + next(6) {
			n.Arcs = append(n.Arcs, arc(next(n.Nodes), next(n.Nodes), next(4)))
		}
		s := next(n.Nodes)
		sink := (s + 1 + next(n.Nodes-1)) % n.Nodes
		side, k, _ := Least(n, s, sink)
		products([]int{0, 1, 2, 3}, len(n.Arcs), func(f []int) {
			value, ok := isFlow(n, s, sink, f)
			if !ok {
				return
			}
			flows++
			if checked, err := static.Check(n, s, sink, f); checked != value || err != api.OK {
				t.Fatalf("J4: Check of %v of %v from %d to %d: %d %d, want %d", f, n, s, sink, checked, err, value)
			}
			if value == k {
				greatest++
				if got, err := Side(n, f, s); !slices.Equal(got, side) || err != api.OK {
					t.Fatalf("J4: %v of %v from %d to %d: side %v %d, want %v", f, n, s, sink, got, err, side)
				}
			}
			testBelowAllSides(t, n, s, sink, value)
		})
	}
	if flows < 3000 || greatest < 1000 || flows-greatest < 1000 {
		t.Errorf("only %d flows, %d with the greatest value", flows, greatest)
	}
}

// testBelowAllSides fails unless each side with s and without the sink has at
// least the capacity of a flow's value.
func testBelowAllSides(t *testing.T, n api.Net, s, sink, value int) {
	t.Helper()
	for set := range uint64(1) << n.Nodes {
		if !has(set, s) || has(set, sink) {
			continue
		}
		if k, err := Capacity(n, sideFrom(set, n.Nodes)); k < value || err != api.OK {
			t.Fatalf("J4: a flow of %v from %d to %d has the value %d, but %b has the capacity %d %d", n, s, sink, value, set, k, err)
		}
	}
}

func TestNoValueIsAboveAnySide(t *testing.T) {
	next := numbers(107)
	for _, n := range nets() {
		if n.Nodes < 2 {
			continue
		}
		value, _ := maxflow.Most(n, 0, n.Nodes-1)
		for range 200 {
			side := make([]bool, n.Nodes)
			for node := range side {
				side[node] = next(2) == 0
			}
			side[0], side[n.Nodes-1] = true, false
			if k, err := Capacity(n, side); k < value || err != api.OK {
				t.Fatalf("J4: %v has the value %d, but %v has the capacity %d %d", n, value, side, k, err)
			}
		}
	}
}

func TestSideOfAnotherFlowWithTheGreatestValue(t *testing.T) {
	next := numbers(108)
	others := 0
	for _, n := range nets() {
		if n.Nodes < 2 {
			continue
		}
		side, k, _ := Least(n, 0, n.Nodes-1)
		f, _, _ := maxflow.Max(n, 0, n.Nodes-1)
		for range 10 {
			g, ok := around(n, f, next)
			if !ok {
				continue
			}
			others++
			if value, err := static.Check(n, 0, n.Nodes-1, g); value != k || err != api.OK {
				t.Fatalf("%v around %v has the value %d %d", g, f, value, err)
			}
			if got, err := Side(n, g, 0); !slices.Equal(got, side) || err != api.OK {
				t.Fatalf("J4: %v of %v: side %v %d, want %v", g, n, got, err, side)
			}
			f = g
		}
	}
	if others < 300 {
		t.Errorf("only %d other flows", others)
	}
}

// around returns the flow after one more has gone along some arc with room and
// from its end, by other arcs, to where it began, if there is such a way.
func around(n api.Net, f []int, next func(below int) int) (g []int, ok bool) {
	if len(f) == 0 {
		return nil, false
	}
	first := next(len(f))
	a := n.Arcs[first]
	if a.From == a.To || f[first] == a.Cap {
		return nil, false
	}
	// Without the arc itself, so that the way back is another one.
	others := api.Net{Nodes: n.Nodes, Arcs: slices.Clone(n.Arcs)}
	rest := slices.Clone(f)
	others.Arcs[first].Cap, rest[first] = 0, 0
	way, ok, _ := level.Path(others, rest, a.To, a.From)
	if !ok {
		return nil, false
	}
	g, err := static.Push(n, f, append(way, api.Step{Arc: first}), 1)
	return g, err == api.OK
}

func TestTurnedNets(t *testing.T) {
	next := numbers(109)
	for _, n := range nets() {
		if n.Nodes < 2 {
			continue
		}
		s := next(n.Nodes)
		sink := (s + 1 + next(n.Nodes-1)) % n.Nodes
		side, k, _ := Least(n, s, sink)
		// All nodes but those of the turned network's side are the greatest side
		// with the least capacity.
		behind, again, err := Least(turned(n), sink, s)
		if again != k || err != api.OK || setOf(side)&setOf(behind) != 0 {
			t.Fatalf("J4: %v from %d to %d: %v %d, turned %v %d %d", n, s, sink, side, k, behind, again, err)
		}
		greatest := slices.Clone(behind)
		for node := range greatest {
			greatest[node] = !behind[node]
		}
		if again, err := Capacity(n, greatest); again != k || err != api.OK {
			t.Fatalf("J2: %v from %d to %d: %v has the capacity %d %d, want %d", n, s, sink, greatest, again, err, k)
		}
	}
}

// Networks at the edges, at all three calls.

func TestErrorsOfCheckComeFirst(t *testing.T) {
	for _, c := range refused() {
		n := c.net
		if err := netfmt.Check(n); err != c.want {
			t.Fatalf("Check of %d nodes and %d arcs: %d, want %d", n.Nodes, len(n.Arcs), err, c.want)
		}
		for _, s := range append(numbersAround(n.Nodes), 1) {
			for _, f := range [][]int{nil, zero(n), full(n), make([]int, len(n.Arcs)+1), slices.Repeat([]int{-1}, len(n.Arcs)), slices.Repeat([]int{most}, len(n.Arcs))} {
				isSideRefused(t, n, f, s, c.want)
			}
			for _, sink := range append(numbersAround(n.Nodes), 1, s) {
				isLeastRefused(t, n, s, sink, c.want)
			}
		}
		for _, nodes := range []int{0, 1, 2, 3, 50, 51, 5000} {
			isCapacityRefused(t, n, make([]bool, nodes), c.want)
			isCapacityRefused(t, n, slices.Repeat([]bool{true}, nodes), c.want)
		}
		isCapacityRefused(t, n, nil, c.want)
	}
}

func TestOneNode(t *testing.T) {
	for _, n := range []api.Net{{Nodes: 1}, {Nodes: 1, Arcs: []api.Arc{}}, {Nodes: 1, Arcs: someArcs(1)}, {Nodes: 1, Arcs: someArcs(200)}} {
		isSide(t, n, zero(n), 0, 0)
		isSide(t, n, full(n), 0, 0)
		isCapacity(t, n, 0)
		isCapacity(t, n, 0, 0)
		isCapacityRefused(t, n, nil, api.ErrArg)
		isCapacityRefused(t, n, []bool{true, true}, api.ErrArg)
		for _, s := range []int{0, 1, -1, most, least} {
			isLeastRefused(t, n, s, 0, api.ErrEnds)
			isLeastRefused(t, n, 0, s, api.ErrEnds)
			isLeastRefused(t, n, s, s, api.ErrEnds)
			if s != 0 {
				isSideRefused(t, n, zero(n), s, api.ErrArg)
			}
		}
	}
}

func TestTwoNodes(t *testing.T) {
	for _, width := range []int{0, 1, 2, twenty - 1, twenty} {
		n := api.Net{Nodes: 2, Arcs: []api.Arc{arc(0, 1, width)}}
		isLeast(t, n, 0, 1, width, 0)
		isLeast(t, n, 1, 0, 0, 1)
		isLeastRefused(t, n, 0, 2, api.ErrEnds)
		isLeastRefused(t, n, 1, 1, api.ErrEnds)
		isCapacity(t, n, width, 0)
		isCapacity(t, n, 0, 1)
	}
}

func TestNoArc(t *testing.T) {
	for _, nodes := range []int{2, 3, 50} {
		for _, arcs := range [][]api.Arc{nil, {}} {
			n := api.Net{Nodes: nodes, Arcs: arcs}
			isLeast(t, n, 0, nodes-1, 0, 0)
			isLeast(t, n, nodes-1, 0, 0, nodes-1)
			isLeastRefused(t, n, 0, 0, api.ErrEnds)
			isLeastRefused(t, n, 0, nodes, api.ErrEnds)
			isSide(t, n, nil, nodes/2, nodes/2)
			isCapacity(t, n, 0, 0)
			isCapacity(t, n, 0, upTo(nodes-1)...)
		}
	}
}

func TestArcsFromANodeToItself(t *testing.T) {
	n := api.Net{Nodes: 3, Arcs: []api.Arc{arc(0, 0, 9), arc(0, 1, 5), arc(1, 1, 9), arc(2, 2, 9), arc(1, 2, 4), arc(0, 0, twenty), arc(2, 2, 1)}}
	isLeast(t, n, 0, 2, 4, 0, 1)
	isLeast(t, n, 2, 0, 0, 2)
	isLeast(t, n, 0, 1, 5, 0)
	isSide(t, n, []int{5, 5, 5, 5, 0, 5, 0}, 0, 0)
	isCapacity(t, n, 5, 0)
	isCapacity(t, n, 4, 1)
	isCapacity(t, n, 0, 2)
	for _, node := range []int{0, 1, 49} {
		loops := api.Net{Nodes: 50}
		for range 199 {
			loops.Arcs = append(loops.Arcs, arc(node, node, twenty))
		}
		loops.Arcs = append(loops.Arcs, arc(0, 49, 6))
		isLeast(t, loops, 0, 49, 6, 0)
		isLeast(t, loops, 49, 0, 0, 49)
	}
}

func TestSeveralArcsBetweenTheSameNodes(t *testing.T) {
	n := api.Net{Nodes: 2, Arcs: []api.Arc{arc(0, 1, 0), arc(0, 1, 2), arc(1, 0, 5), arc(0, 1, 2), arc(1, 0, 0), arc(0, 1, 3)}}
	isLeast(t, n, 0, 1, 7, 0)
	isLeast(t, n, 1, 0, 5, 1)
	// One of several with room is enough, along or back.
	isSide(t, n, []int{0, 2, 0, 2, 0, 3}, 0, 0)
	isSide(t, n, []int{0, 2, 0, 2, 0, 2}, 0, 0, 1)
	isSide(t, n, []int{0, 2, 1, 2, 0, 3}, 0, 0, 1)
	n.Nodes = 3
	n.Arcs = append(n.Arcs, arc(1, 2, 6), arc(2, 1, 8), arc(1, 2, 0), arc(2, 1, 1))
	isLeast(t, n, 0, 2, 6, 0, 1)
	isLeast(t, n, 2, 0, 5, 1, 2)
	isLeast(t, n, 2, 1, 9, 2)
}

func TestGreatestCapacity(t *testing.T) {
	for _, arcs := range []int{0, 1, 2, 199, 200} {
		n := api.Net{Nodes: 2}
		for range arcs {
			n.Arcs = append(n.Arcs, arc(0, 1, twenty))
		}
		isLeast(t, n, 0, 1, arcs*twenty, 0)
		isLeast(t, n, 1, 0, 0, 1)
		isCapacity(t, n, arcs*twenty, 0)
		isCapacity(t, n, 0, 1)
	}
	// The same from half of 50 nodes to the other half, where nothing leads on.
	n := api.Net{Nodes: 50}
	for i := range 200 {
		n.Arcs = append(n.Arcs, arc(i%25, 25+(i+i/25)%25, twenty))
	}
	isCapacity(t, n, 200*twenty, upTo(25)...)
	isCapacity(t, n, 0, upTo(50)[25:]...)
	isLeast(t, n, 0, 49, 0, append(upTo(33)[25:], 0)...)
	isLeast(t, n, 0, 25, twenty, append(upTo(33)[26:], 0)...)
	// Through a node between them.
	between := api.Net{Nodes: 3}
	for range 100 {
		between.Arcs = append(between.Arcs, arc(0, 1, twenty), arc(1, 2, twenty))
	}
	isLeast(t, between, 0, 2, 100*twenty, 0)
	between.Arcs[1].Cap--
	isLeast(t, between, 0, 2, 100*twenty-1, 0, 1)
}

func TestFiftyNodes(t *testing.T) {
	// From 0 to each of 48 nodes and on to the last: each is in the side if less
	// can leave it than come.
	star := api.Net{Nodes: 50}
	inside := []int{0}
	for node := 1; node < 49; node++ {
		star.Arcs = append(star.Arcs, arc(0, node, node), arc(node, 49, 49-node))
		if node > 49-node {
			inside = append(inside, node)
		}
	}
	isLeast(t, star, 0, 49, 24*25, inside...)
	testLeastAnew(t, star, 0, 49)
	isLeast(t, star, 49, 0, 0, 49)
	for place := range 49 {
		n := line(50, 9)
		n.Arcs[place].Cap = 8
		isLeast(t, n, 0, 49, 8, upTo(place+1)...)
		isSide(t, n, slices.Repeat([]int{8}, 49), 0, upTo(place+1)...)
	}
}

// What makes no difference, and what stays.

func TestTimesAndHoldMakeNoDifference(t *testing.T) {
	next := numbers(110)
	for _, n := range nets() {
		other := api.Net{Nodes: n.Nodes, Hold: !n.Hold, Arcs: slices.Clone(n.Arcs)}
		for i := range other.Arcs {
			other.Arcs[i].Time = next(twenty + 1)
		}
		s, sink, f := next(n.Nodes), next(n.Nodes), anyFlow(next, n)
		side, k, err := Least(n, s, sink)
		if got, again, errAgain := Least(other, s, sink); !slices.Equal(got, side) || again != k || errAgain != err {
			t.Errorf("J3: %v with other Times from %d to %d: %v %d %d, want %v %d %d", n, s, sink, got, again, errAgain, side, k, err)
		}
		testSide(t, other, f, s)
		testCapacity(t, other, reached(n, f, s))
	}
}

func TestOrderOfArcsMakesNoDifference(t *testing.T) {
	next := numbers(111)
	for _, n := range nets() {
		if n.Nodes < 2 {
			continue
		}
		s := next(n.Nodes)
		sink := (s + 1 + next(n.Nodes-1)) % n.Nodes
		side, k, _ := Least(n, s, sink)
		other := n
		other.Arcs = slices.Clone(n.Arcs)
		slices.Reverse(other.Arcs)
		for range 2 {
			if got, again, err := Least(other, s, sink); !slices.Equal(got, side) || again != k || err != api.OK {
				t.Errorf("J3: %v in another order from %d to %d: %v %d %d, want %v %d", n, s, sink, got, again, err, side, k)
			}
			for i := range other.Arcs {
				j := next(i + 1)
				other.Arcs[i], other.Arcs[j] = other.Arcs[j], other.Arcs[i]
			}
		}
	}
}

func TestArgumentsStay(t *testing.T) {
	next := numbers(112)
	all := nets()
	for _, c := range refused() {
		all = append(all, c.net)
	}
	for i, n := range all {
		f := zero(n)
		if netfmt.Check(n) == api.OK {
			f = anyFlow(next, n)
		}
		side := make([]bool, 60)
		for node := range side {
			side[node] = next(2) == 0
		}
		arcs, flow, before := slices.Clone(n.Arcs), slices.Clone(f), slices.Clone(side)
		// What lies beyond the length of a slice stays too.
		shorter := n
		shorter.Arcs = n.Arcs[:len(n.Arcs)/2]
		for _, s := range []int{0, n.Nodes - 1, -1, most} {
			Side(n, f, s)
			Side(shorter, f[:len(f)/2], s)
			Side(n, f[:len(f)/2], s)
			for _, sink := range []int{0, n.Nodes - 1, least} {
				Least(n, s, sink)
				Least(shorter, s, sink)
			}
		}
		Capacity(n, side[:max(0, min(n.Nodes, 60))])
		Capacity(shorter, side[:max(0, min(n.Nodes, 60))])
		Capacity(n, side)
		if !slices.Equal(n.Arcs, arcs) || !slices.Equal(f, flow) || !slices.Equal(side, before) {
			t.Fatalf("R3: network %d: %v, %v and %v became %v, %v and %v", i, arcs, flow, before, n.Arcs, f, side)
		}
	}
}

func TestResultsAreApart(t *testing.T) {
	n, f := line(4, 5), []int{5, 2, 5}
	for range 3 {
		isLeast(t, n, 0, 3, 5, 0)
		isSide(t, n, f, 1, 0, 1, 2)
		cut, _, _ := Least(n, 0, 3)
		side, _ := Side(n, f, 1)
		isLeast(t, n, 3, 0, 0, 3)
		isSide(t, n, f, 3, 0, 1, 2, 3)
		if !slices.Equal(cut, some(4, 0)) || !slices.Equal(side, some(4, 0, 1, 2)) {
			t.Fatalf("R3: later calls made the results %v and %v", cut, side)
		}
		for _, l := range [][]bool{cut, side} {
			l = l[:cap(l)]
			for node := range l {
				l[node] = !l[node]
			}
		}
		if !slices.Equal(n.Arcs, line(4, 5).Arcs) || !slices.Equal(f, []int{5, 2, 5}) {
			t.Fatalf("R3: a change of the results made the arcs %v and the flow %v", n.Arcs, f)
		}
	}
}

func TestEarlierCallsMakeNoDifference(t *testing.T) {
	next := numbers(113)
	for _, n := range nets() {
		s, sink, f := next(n.Nodes), next(n.Nodes), anyFlow(next, n)
		side, k, err := Least(n, s, sink)
		isLeastRefused(t, api.Net{Nodes: 51}, 0, 1, api.ErrLimit)
		isCapacityRefused(t, n, nil, api.ErrArg)
		isLeast(t, line(50, 3), 0, 49, 3, 0)
		testSide(t, n, f, s)
		if got, again, errAgain := Least(n, s, sink); !slices.Equal(got, side) || again != k || errAgain != err {
			t.Errorf("R4: %v from %d to %d: %v %d %d, before %v %d %d", n, s, sink, got, again, errAgain, side, k, err)
		}
		testSide(t, n, f, s)
	}
}

func TestExamples(t *testing.T) {
	n := api.Net{Nodes: 3, Arcs: []api.Arc{arc(0, 1, 3), arc(1, 2, 1)}}
	isLeast(t, n, 0, 2, 1, 0, 1)
	isCapacity(t, n, 3, 0)
	isCapacity(t, n, 1, 0, 1)
}
