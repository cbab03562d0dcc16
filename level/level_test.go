package level

import (
	"math"
	"slices"
	"testing"

	"ebbtide/api"
	"ebbtide/static"
)

const (
	most  = math.MaxInt64
	least = math.MinInt64
	// twenty is what an arc's Cap and Time may be at most.
	twenty = 1048576
)

// numbers returns a function that returns one number after the other, the same
// ones in each run.
func numbers(seed uint64) func(below int) int {
	return func(below int) int {
		seed = seed*6364136223846793005 + 1442695040888963407
		return int(seed>>33) % below
	}
}

// there is the step along an arc.
func there(arc int) api.Step { return api.Step{Arc: arc} }

// backward is the step back along an arc.
func backward(arc int) api.Step { return api.Step{Arc: arc, Back: true} }

// The plain ways of working out what the chapter asks for, each by another
// method than the package's. The networks that they are given are right.

// flowAnew reports whether f is a flow.
func flowAnew(n api.Net, f []int) bool {
	within := 0
	for i := range min(len(f), len(n.Arcs)) {
		if max(0, min(f[i], n.Arcs[i].Cap)) == f[i] {
			within++
		}
	}
	return within == len(n.Arcs) && within == len(f)
}

// open is a step with room, and where it leads.
type open struct {
	api.Step
	from, to int
}

// opened returns the steps with room, in the order of the indices of their
// arcs, that along an arc before that back.
func opened(n api.Net, f []int) []open {
	var l []open
	for i, a := range n.Arcs {
		if a.Cap-f[i] > 0 {
			l = append(l, open{there(i), a.From, a.To})
		}
		if f[i] > 0 {
			l = append(l, open{backward(i), a.To, a.From})
		}
	}
	return l
}

// turned returns the steps with their ends exchanged.
func turned(l []open) []open {
	out := slices.Clone(l)
	for i, x := range l {
		out[i].from, out[i].to = x.to, x.from
	}
	return out
}

// levelsAnew lowers the levels in rounds, until each node's is at most one
// above that of a node from which a step leads to it.
func levelsAnew(nodes int, steps []open, s int) []int {
	out := slices.Repeat([]int{most}, nodes)
	out[s] = 0
	for range nodes {
		for _, x := range steps {
			if out[x.from] != most {
				out[x.to] = min(out[x.to], out[x.from]+1)
			}
		}
	}
	for node, level := range out {
		if level == most {
			out[node] = -1
		}
	}
	return out
}

// pathAnew returns, of the shortest paths, the one whose steps come first. It
// is the one that the search finds: of the nodes of one level, those are found
// first whose paths come first. Each step is chosen by how far it is from its
// end to t.
func pathAnew(nodes int, steps []open, s, t int) ([]api.Step, bool) {
	far := levelsAnew(nodes, turned(steps), t)
	var l []api.Step
	if far[s] < 0 {
		return nil, false
	}
	for node := s; node != t; {
		next := slices.IndexFunc(steps, func(x open) bool { return x.from == node && far[x.to] == far[node]-1 })
		l, node = append(l, steps[next].Step), steps[next].to
	}
	return l, true
}

// foundAnew returns the path of the search, by the chapter's words for it.
func foundAnew(steps []open, s, t int) ([]api.Step, bool) {
	found, paths := []int{s}, map[int][]api.Step{s: nil}
	for i := 0; i < len(found); i++ {
		for _, x := range steps {
			if x.from == found[i] && !slices.Contains(found, x.to) {
				found = append(found, x.to)
				paths[x.to] = append(slices.Clone(paths[x.from]), x.Step)
			}
		}
	}
	return paths[t], slices.Contains(found, t)
}

// testLevels holds Levels against H1.
func testLevels(t *testing.T, n api.Net, f []int, s int) {
	t.Helper()
	levels, err := Levels(n, f, s)
	switch {
	case !flowAnew(n, f):
		if len(levels) != 0 || err != api.ErrFlow {
			t.Errorf("H1: Levels of %v in %v from %d: %v %d, want 71", f, n, s, levels, err)
		}
	case s < 0 || s >= n.Nodes:
		if len(levels) != 0 || err != api.ErrArg {
			t.Errorf("H1: Levels of %v in %v from %d: %v %d, want 1", f, n, s, levels, err)
		}
	default:
		if want := levelsAnew(n.Nodes, opened(n, f), s); !slices.Equal(levels, want) || err != api.OK {
			t.Errorf("H1: Levels of %v in %v from %d: %v %d, want %v", f, n, s, levels, err, want)
		}
	}
}

// testPath holds Path against H2 and H3.
func testPath(t *testing.T, n api.Net, f []int, s, sink int) {
	t.Helper()
	l, ok, err := Path(n, f, s, sink)
	switch {
	case !flowAnew(n, f):
		if len(l) != 0 || ok || err != api.ErrFlow {
			t.Errorf("H2: Path of %v in %v from %d to %d: %v %v %d, want 71", f, n, s, sink, l, ok, err)
		}
		return
	case s < 0 || s >= n.Nodes || sink < 0 || sink >= n.Nodes || s == sink:
		if len(l) != 0 || ok || err != api.ErrEnds {
			t.Errorf("H2: Path of %v in %v from %d to %d: %v %v %d, want 70", f, n, s, sink, l, ok, err)
		}
		return
	}
	steps := opened(n, f)
	want, there := pathAnew(n.Nodes, steps, s, sink)
	if !slices.Equal(l, want) || ok != there || err != api.OK {
		t.Errorf("H2: Path of %v in %v from %d to %d: %v %v %d, want %v %v", f, n, s, sink, l, ok, err, want, there)
	}
	if want, there := foundAnew(steps, s, sink); !slices.Equal(l, want) || ok != there {
		t.Errorf("H2: Path of %v in %v from %d to %d: %v %v, want %v %v", f, n, s, sink, l, ok, want, there)
	}
	testTheorem(t, n, f, s, sink, l, ok)
}

// testTheorem holds a path against H3.
func testTheorem(t *testing.T, n api.Net, f []int, s, sink int, l []api.Step, ok bool) {
	t.Helper()
	levels, err := Levels(n, f, s)
	if err != api.OK || len(levels) != n.Nodes || levels[s] != 0 || ok != (levels[sink] >= 0) {
		t.Fatalf("H3: %v in %v from %d to %d: %v, but levels %v %d", f, n, s, sink, ok, levels, err)
	}
	if !ok {
		return
	}
	node, k := s, most
	for i, x := range l {
		a := n.Arcs[x.Arc]
		begin, end := a.From, a.To
		if x.Back {
			begin, end = end, begin
		}
		if begin != node || levels[end] != i+1 {
			t.Fatalf("H3: %v in %v from %d to %d: step %d of %v, levels %v", f, n, s, sink, i, l, levels)
		}
		room, _ := static.Room(n, f, x)
		node, k = end, min(k, room)
	}
	if node != sink || len(l) != levels[sink] || k < 1 {
		t.Fatalf("H3: %v in %v from %d to %d: %v with room %d ends at %d, levels %v", f, n, s, sink, l, k, node, levels)
	}
	testIncrease(t, n, f, s, sink, l, k)
}

// testIncrease fails unless the flow can be increased by k along the path.
func testIncrease(t *testing.T, n api.Net, f []int, s, sink int, l []api.Step, k int) {
	t.Helper()
	after, err := static.Push(n, f, l, k)
	want, _ := static.Balance(n, f)
	want[s] += k
	want[sink] -= k
	if b, errB := static.Balance(n, after); !slices.Equal(b, want) || err != api.OK || errB != api.OK {
		t.Fatalf("H3: %d more along %v than %v in %v: %v %d, balances %v, want %v", k, l, f, n, after, err, b, want)
	}
}

// testAll holds both calls against the chapter for all nodes.
func testAll(t *testing.T, n api.Net, f []int) {
	t.Helper()
	for s := range n.Nodes {
		testLevels(t, n, f, s)
		for sink := range n.Nodes {
			testPath(t, n, f, s, sink)
		}
	}
}

// someArcs returns so many arcs from 0 to itself.
func someArcs(n int) []api.Arc {
	l := make([]api.Arc, n)
	for i := range l {
		l[i] = api.Arc{Cap: i, Time: 2 * i}
	}
	return l
}

// line returns a network whose arcs lead from each node to the one after it,
// with that Cap.
func line(nodes, width int) api.Net {
	n := api.Net{Nodes: nodes}
	for node := 1; node < nodes; node++ {
		n.Arcs = append(n.Arcs, api.Arc{From: node - 1, To: node, Cap: width, Time: node})
	}
	return n
}

// mixed returns a network of that many nodes and arcs of all kinds.
func mixed(next func(below int) int, nodes, arcs int) api.Net {
	edges := []int{0, 1, 2, 3, 7, 1000, twenty - 1, twenty}
	n := api.Net{Nodes: nodes, Hold: next(2) == 0}
	for range arcs {
		n.Arcs = append(n.Arcs, api.Arc{From: next(nodes), To: next(nodes), Cap: edges[next(len(edges))], Time: edges[next(len(edges))]})
	}
	return n
}

// nets returns networks that are right, the smallest and the greatest among
// them.
func nets() []api.Net {
	out := []api.Net{
		{Nodes: 1}, {Nodes: 1, Hold: true, Arcs: []api.Arc{}}, {Nodes: 1, Arcs: someArcs(1)}, {Nodes: 1, Arcs: someArcs(200)},
		{Nodes: 2}, {Nodes: 50}, {Nodes: 50, Arcs: someArcs(200)}, line(50, 0), line(50, 1), line(50, twenty), line(2, 1),
		{Nodes: 2, Arcs: []api.Arc{{To: 1, Cap: 7}, {To: 1, Cap: 2, Time: 5}, {To: 1, Cap: 2, Time: 5}, {To: 1}}},
		{Nodes: 2, Arcs: []api.Arc{{To: 1, Cap: 4}, {From: 1, Cap: 6}, {From: 1, To: 1, Cap: 1}}},
	}
	next := numbers(8)
	for nodes := 1; nodes <= 50; nodes++ {
		for _, arcs := range []int{nodes / 2, nodes, 2 * nodes, next(201), 200} {
			out = append(out, mixed(next, nodes, min(arcs, 200)))
		}
	}
	return out
}

// flows returns flows of the network: that of zeros, the greatest, and others,
// which hardly ever are balanced.
func flows(next func(below int) int, n api.Net) [][]int {
	out := make([][]int, 4)
	for _, a := range n.Arcs {
		for i, k := range []int{0, a.Cap, next(a.Cap + 1), []int{0, a.Cap / 2, a.Cap}[next(3)]} {
			out[i] = append(out[i], k)
		}
	}
	return out
}

// noFlows returns lists of numbers that are no flows of the network.
func noFlows(next func(below int) int, n api.Net) [][]int {
	var out [][]int
	for _, f := range flows(next, n) {
		out = append(out, append(slices.Clone(f), 0), append(slices.Clone(f), 1, 2), append([]int{0}, f...))
		if len(f) == 0 {
			continue
		}
		out = append(out, f[1:], f[:len(f)-1], nil, []int{})
		for _, place := range []int{0, len(f) / 2, len(f) - 1} {
			for _, k := range []int{-1, least, least + 1, n.Arcs[place].Cap + 1, twenty + 1, most, 1 << 32, -1 << 32} {
				g := slices.Clone(f)
				g[place] = k
				out = append(out, g)
			}
		}
	}
	return out
}

// numbersAround returns numbers that may be nodes, and ones that are none.
func numbersAround(nodes int) []int {
	return []int{0, nodes - 1, nodes / 2, -1, nodes, nodes + 1, -nodes, 50, 51, 1 << 32, -1 << 32, most, least}
}

func TestNets(t *testing.T) {
	next := numbers(81)
	for i, n := range nets() {
		for j, f := range flows(next, n) {
			// All pairs of nodes of each greater network would take too long.
			if (i+j)%60 == 0 || n.Nodes < 10 {
				testAll(t, n, f)
				continue
			}
			for range 20 {
				testLevels(t, n, f, next(n.Nodes))
				testPath(t, n, f, next(n.Nodes), next(n.Nodes))
			}
		}
	}
}

func TestEnds(t *testing.T) {
	next := numbers(82)
	for _, n := range nets() {
		f := flows(next, n)[next(4)]
		for _, s := range numbersAround(n.Nodes) {
			testLevels(t, n, f, s)
			for _, sink := range numbersAround(n.Nodes) {
				testPath(t, n, f, s, sink)
			}
		}
	}
}

func TestNoFlows(t *testing.T) {
	next := numbers(83)
	for _, n := range nets() {
		for _, f := range noFlows(next, n) {
			for _, s := range []int{0, n.Nodes - 1, -1, n.Nodes, most, least} {
				testLevels(t, n, f, s)
				for _, sink := range []int{0, n.Nodes - 1, -1, n.Nodes, most, least} {
					testPath(t, n, f, s, sink)
				}
			}
		}
	}
}

// products calls do with each list that has so many of the items.
func products[T any](items []T, length int, do func(l []T)) {
	l := make([]T, length)
	var fill func(place int)
	fill = func(place int) {
		if place == length {
			do(l)
			return
		}
		for _, x := range items {
			l[place] = x
			fill(place + 1)
		}
	}
	fill(0)
}

func TestAllSmallNets(t *testing.T) {
	// An arc and its flow: from each node to each, with room along it, back, and
	// both.
	type laden struct {
		api.Arc
		flow int
	}
	var kinds []laden
	for place := range 27 {
		a := api.Arc{From: place % 3, To: place / 3 % 3, Cap: 1 + place/18}
		kinds = append(kinds, laden{a, (place/9 + 1) / 2})
	}
	for length := range 4 {
		products(kinds, length, func(l []laden) {
			n, f := api.Net{Nodes: 3}, []int{}
			for _, x := range l {
				n.Arcs, f = append(n.Arcs, x.Arc), append(f, x.flow)
			}
			testAll(t, n, f)
		})
	}
}

func TestManyMiddlingNets(t *testing.T) {
	next := numbers(84)
	for range 4000 {
		n := api.Net{Nodes: 2 + next(6)}
		var f []int
		for range next(4 * n.Nodes) {
			a := api.Arc{From: next(n.Nodes), To: next(n.Nodes), Cap: next(3)}
			n.Arcs, f = append(n.Arcs, a), append(f, next(a.Cap+1))
		}
		s := next(n.Nodes)
		testLevels(t, n, f, s)
		for sink := range n.Nodes {
			testPath(t, n, f, s, sink)
		}
	}
}

// isRefused fails unless both calls return the error and nothing else.
func isRefused(t *testing.T, n api.Net, f []int, s, sink int, want api.Errno) {
	t.Helper()
	if levels, err := Levels(n, f, s); len(levels) != 0 || err != want {
		t.Errorf("H1: %d nodes, %d arcs: %v %d, want %d", n.Nodes, len(n.Arcs), levels, err, want)
	}
	if l, ok, err := Path(n, f, s, sink); len(l) != 0 || ok || err != want {
		t.Errorf("H2: %d nodes, %d arcs: %v %v %d, want %d", n.Nodes, len(n.Arcs), l, ok, err, want)
	}
}

func TestErrorsOfCheckComeFirst(t *testing.T) {
	right := api.Arc{To: 1, Cap: 3, Time: 4}
	wrong := api.Arc{From: 2, To: 1}
	great := api.Arc{To: 1, Time: twenty + 1}
	for _, c := range []struct {
		nodes int
		arcs  []api.Arc
		want  api.Errno
	}{
		{0, nil, api.ErrNet}, {-1, nil, api.ErrNet}, {least, nil, api.ErrNet}, {0, []api.Arc{great}, api.ErrNet}, {0, someArcs(201), api.ErrNet},
		{51, nil, api.ErrLimit}, {most, nil, api.ErrLimit}, {51, []api.Arc{wrong}, api.ErrLimit},
		{1, someArcs(201), api.ErrLimit}, {50, someArcs(5000), api.ErrLimit}, {2, append([]api.Arc{wrong}, someArcs(200)...), api.ErrLimit},
		{2, []api.Arc{{From: -1}}, api.ErrNet}, {2, []api.Arc{{From: 2}}, api.ErrNet}, {2, []api.Arc{{From: least}}, api.ErrNet},
		{2, []api.Arc{{To: -1}}, api.ErrNet}, {2, []api.Arc{{To: 2}}, api.ErrNet}, {2, []api.Arc{{To: most}}, api.ErrNet},
		{2, []api.Arc{{Cap: -1}}, api.ErrNet}, {2, []api.Arc{{Time: -1}}, api.ErrNet}, {2, []api.Arc{{To: 1, Time: least}}, api.ErrNet},
		{2, []api.Arc{{Cap: twenty + 1}}, api.ErrLimit}, {2, []api.Arc{{Time: twenty + 1}}, api.ErrLimit}, {2, []api.Arc{{To: 1, Cap: most}}, api.ErrLimit},
		{2, []api.Arc{right, wrong, great}, api.ErrNet}, {2, []api.Arc{right, great, wrong}, api.ErrLimit},
		{2, append(someArcs(199), wrong), api.ErrNet}, {2, append(someArcs(199), great), api.ErrLimit},
	} {
		n := api.Net{Nodes: c.nodes, Arcs: c.arcs}
		for _, f := range [][]int{make([]int, len(c.arcs)), nil, {}, {-1}, {twenty + 2}} {
			for _, ends := range [][2]int{{0, 1}, {1, 0}, {1, 1}, {-1, 0}, {0, c.nodes}, {c.nodes, 0}, {most, least}} {
				isRefused(t, n, f, ends[0], ends[1], c.want)
			}
		}
	}
}

func TestWhichErrorComesFirst(t *testing.T) {
	n := line(3, 5)
	for _, ends := range [][2]int{{-1, 2}, {3, 0}, {-1, -1}, {3, 3}, {most, least}} {
		for _, f := range [][]int{nil, {}, {1}, {1, 1, 1}, {-1, 0}, {0, 6}} {
			isRefused(t, n, f, ends[0], ends[1], api.ErrFlow)
		}
		for _, f := range [][]int{{0, 0}, {5, 5}, {3, 0}} {
			if levels, err := Levels(n, f, ends[0]); len(levels) != 0 || err != api.ErrArg {
				t.Errorf("H1: from %d: %v %d, want 1", ends[0], levels, err)
			}
			isNoPath(t, n, f, ends[0], ends[1], api.ErrEnds)
		}
	}
	isNoPath(t, n, []int{1}, 1, 1, api.ErrFlow)
	isNoPath(t, n, []int{0, 6}, 0, 3, api.ErrFlow)
	isNoPath(t, n, []int{0, 0}, 1, 1, api.ErrEnds)
	isNoPath(t, n, []int{0, 0}, 0, 3, api.ErrEnds)
	isNoPath(t, n, []int{0, 0}, 0, -1, api.ErrEnds)
}

// isPath fails unless Path returns those steps.
func isPath(t *testing.T, n api.Net, f []int, s, sink int, want ...api.Step) {
	t.Helper()
	if l, ok, err := Path(n, f, s, sink); !slices.Equal(l, want) || !ok || err != api.OK {
		t.Errorf("H2: Path of %v from %d to %d: %v %v %d, want %v", f, s, sink, l, ok, err, want)
	}
	testPath(t, n, f, s, sink)
}

// isNoPath fails unless Path returns the error, or OK, and nothing else.
func isNoPath(t *testing.T, n api.Net, f []int, s, sink int, want api.Errno) {
	t.Helper()
	if l, ok, err := Path(n, f, s, sink); len(l) != 0 || ok || err != want {
		t.Errorf("H2: Path of %v from %d to %d: %v %v %d, want %d", f, s, sink, l, ok, err, want)
	}
	testPath(t, n, f, s, sink)
}

// isLevels fails unless Levels returns those.
func isLevels(t *testing.T, n api.Net, f []int, s int, want ...int) {
	t.Helper()
	if levels, err := Levels(n, f, s); !slices.Equal(levels, want) || err != api.OK {
		t.Errorf("H1: Levels of %v from %d: %v %d, want %v", f, s, levels, err, want)
	}
	testLevels(t, n, f, s)
}

func TestOneNode(t *testing.T) {
	for _, n := range []api.Net{{Nodes: 1}, {Nodes: 1, Arcs: []api.Arc{}}, {Nodes: 1, Arcs: someArcs(200)}} {
		next := numbers(85)
		for _, f := range flows(next, n) {
			isLevels(t, n, f, 0, 0)
			for _, s := range []int{-1, 1, most, least} {
				testLevels(t, n, f, s)
				isNoPath(t, n, f, s, 0, api.ErrEnds)
				isNoPath(t, n, f, 0, s, api.ErrEnds)
			}
			isNoPath(t, n, f, 0, 0, api.ErrEnds)
		}
	}
}

func TestNoArc(t *testing.T) {
	for _, f := range [][]int{nil, {}} {
		isLevels(t, api.Net{Nodes: 3}, f, 1, -1, 0, -1)
		isNoPath(t, api.Net{Nodes: 3}, f, 0, 2, api.OK)
		n := api.Net{Nodes: 50, Arcs: []api.Arc{}}
		want := slices.Repeat([]int{-1}, 50)
		want[49] = 0
		isLevels(t, n, f, 49, want...)
		isNoPath(t, n, f, 49, 0, api.OK)
		isNoPath(t, n, f, 0, 49, api.OK)
	}
}

// both returns the steps of a line of that many nodes, forth and back.
func both(nodes int) (forth, home []api.Step) {
	for arc := range nodes - 1 {
		forth = append(forth, there(arc))
		home = append([]api.Step{backward(arc)}, home...)
	}
	return forth, home
}

func TestLongestLine(t *testing.T) {
	forth, home := both(50)
	var up, down, no []int
	for node := range 50 {
		up, down, no = append(up, node), append(down, 49-node), append(no, -1)
	}
	no[0] = 0
	for _, width := range []int{1, 2, twenty} {
		n := line(50, width)
		zero, full := make([]int, 49), slices.Repeat([]int{width}, 49)
		isPath(t, n, zero, 0, 49, forth...)
		isLevels(t, n, zero, 0, up...)
		isNoPath(t, n, zero, 49, 0, api.OK)
		// With all of it full, only the steps back have room.
		isPath(t, n, full, 49, 0, home...)
		isLevels(t, n, full, 49, down...)
		isNoPath(t, n, full, 0, 49, api.OK)
		isLevels(t, n, full, 0, no...)
	}
	isLevels(t, line(50, 0), make([]int, 49), 0, no...)
	isNoPath(t, line(50, 0), make([]int, 49), 0, 49, api.OK)
}

func TestRoomAtTheCap(t *testing.T) {
	for _, width := range []int{0, 1, 2, 7, twenty - 1, twenty} {
		n := line(2, width)
		for _, flow := range []int{0, 1, width / 2, width - 1, width} {
			if flow < 0 || flow > width {
				isRefused(t, n, []int{flow}, 0, 1, api.ErrFlow)
				continue
			}
			f, to, home := []int{flow}, -1, -1
			if flow < width {
				to = 1
				isPath(t, n, f, 0, 1, there(0))
			} else {
				isNoPath(t, n, f, 0, 1, api.OK)
			}
			if flow > 0 {
				home = 1
				isPath(t, n, f, 1, 0, backward(0))
			} else {
				isNoPath(t, n, f, 1, 0, api.OK)
			}
			isLevels(t, n, f, 0, 0, to)
			isLevels(t, n, f, 1, home, 0)
		}
		isRefused(t, n, []int{width + 1}, 0, 1, api.ErrFlow)
		isRefused(t, n, []int{-1}, 0, 1, api.ErrFlow)
	}
}

func TestOrderOfIndices(t *testing.T) {
	diamond := func(order ...int) api.Net {
		arcs := []api.Arc{{From: 0, To: 1, Cap: 1}, {From: 0, To: 2, Cap: 1}, {From: 1, To: 3, Cap: 1}, {From: 2, To: 3, Cap: 1}}
		n := api.Net{Nodes: 4}
		for _, i := range order {
			n.Arcs = append(n.Arcs, arcs[i])
		}
		return n
	}
	f := make([]int, 4)
	isPath(t, diamond(0, 1, 2, 3), f, 0, 3, there(0), there(2))
	isPath(t, diamond(1, 0, 2, 3), f, 0, 3, there(0), there(3))
	// The first step decides, even where the last one comes first.
	isPath(t, diamond(0, 1, 3, 2), f, 0, 3, there(0), there(3))
	isPath(t, diamond(3, 2, 1, 0), f, 0, 3, there(2), there(0))
	isPath(t, diamond(2, 1, 0, 3), f, 0, 3, there(1), there(3))
	// A step without room finds nothing, at whatever index.
	isPath(t, diamond(0, 1, 2, 3), []int{1, 0, 0, 0}, 0, 3, there(1), there(3))
	isPath(t, diamond(0, 1, 2, 3), []int{0, 0, 1, 0}, 0, 3, there(1), there(3))
	isNoPath(t, diamond(0, 1, 2, 3), []int{0, 0, 1, 1}, 0, 3, api.OK)
}

func TestStepsBackAmongStepsAlong(t *testing.T) {
	// From 0 to 3 by 1 or by 2: to 1 by a step back, to 2 by one along.
	n := api.Net{Nodes: 4, Arcs: []api.Arc{{From: 1, To: 0, Cap: 1}, {From: 0, To: 2, Cap: 1}, {From: 2, To: 3, Cap: 1}, {From: 1, To: 3, Cap: 1}}}
	isPath(t, n, []int{1, 0, 0, 0}, 0, 3, backward(0), there(3))
	isPath(t, n, []int{0, 0, 0, 0}, 0, 3, there(1), there(2))
	n.Arcs[0], n.Arcs[1] = n.Arcs[1], n.Arcs[0]
	isPath(t, n, []int{0, 1, 0, 0}, 0, 3, there(0), there(2))
	isPath(t, n, []int{1, 1, 0, 0}, 0, 3, backward(1), there(3))
	// Two arcs between the same nodes, one each way: the index decides alone.
	pair := api.Net{Nodes: 2, Arcs: []api.Arc{{From: 1, To: 0, Cap: 1}, {From: 0, To: 1, Cap: 1}}}
	isPath(t, pair, []int{1, 0}, 0, 1, backward(0))
	isPath(t, pair, []int{0, 0}, 0, 1, there(1))
	isPath(t, pair, []int{0, 1}, 1, 0, there(0))
	isPath(t, pair, []int{1, 1}, 1, 0, backward(1))
	isNoPath(t, pair, []int{0, 1}, 0, 1, api.OK)
}

func TestSeveralArcsBetweenTheSameNodes(t *testing.T) {
	n := api.Net{Nodes: 2, Arcs: []api.Arc{{To: 1}, {To: 1, Cap: 2}, {To: 1, Cap: 2}, {From: 1, Cap: 3}, {To: 1, Cap: 2}}}
	isPath(t, n, []int{0, 0, 0, 0, 0}, 0, 1, there(1))
	isPath(t, n, []int{0, 1, 0, 0, 0}, 0, 1, there(1))
	isPath(t, n, []int{0, 2, 0, 0, 0}, 0, 1, there(2))
	isPath(t, n, []int{0, 2, 2, 0, 0}, 0, 1, there(4))
	isPath(t, n, []int{0, 2, 2, 1, 0}, 0, 1, backward(3))
	isNoPath(t, n, []int{0, 2, 2, 0, 2}, 0, 1, api.OK)
	isPath(t, n, []int{0, 0, 2, 0, 2}, 1, 0, backward(2))
	isPath(t, n, []int{0, 0, 0, 0, 2}, 1, 0, there(3))
	isPath(t, n, []int{0, 0, 0, 3, 2}, 1, 0, backward(4))
	isNoPath(t, n, []int{0, 0, 0, 3, 0}, 1, 0, api.OK)
	many, f := api.Net{Nodes: 2}, make([]int, 200)
	for range 200 {
		many.Arcs = append(many.Arcs, api.Arc{To: 1, Cap: twenty})
	}
	for arc := range 200 {
		isPath(t, many, f, 0, 1, there(arc))
		f[arc] = twenty
		isPath(t, many, f, 1, 0, backward(0))
	}
	isNoPath(t, many, f, 0, 1, api.OK)
}

func TestArcsFromANodeToItself(t *testing.T) {
	n := api.Net{Nodes: 3, Arcs: []api.Arc{{Cap: 2}, {From: 1, To: 1, Cap: 2}, {To: 1, Cap: 2}, {From: 2, To: 2, Cap: 2}, {From: 1, To: 2, Cap: 2}}}
	for loops := range 3 {
		isPath(t, n, []int{loops, loops, 0, loops, 0}, 0, 2, there(2), there(4))
		isLevels(t, n, []int{loops, loops, 0, loops, 0}, 0, 0, 1, 2)
		isNoPath(t, n, []int{loops, loops, 2, loops, 0}, 0, 2, api.OK)
		isLevels(t, n, []int{loops, loops, 2, loops, 0}, 0, 0, -1, -1)
		isLevels(t, n, []int{loops, loops, 2, loops, 1}, 2, 2, 1, 0)
	}
}

func TestReachedByStepsBackAlone(t *testing.T) {
	// All arcs lead to 0, so that only what flows opens a way from it.
	n := api.Net{Nodes: 4, Arcs: []api.Arc{{From: 1, To: 0, Cap: 3}, {From: 2, To: 1, Cap: 3}, {From: 3, To: 0, Cap: 3}}}
	isLevels(t, n, []int{0, 0, 0}, 0, 0, -1, -1, -1)
	isLevels(t, n, []int{1, 0, 0}, 0, 0, 1, -1, -1)
	isLevels(t, n, []int{1, 1, 0}, 0, 0, 1, 2, -1)
	isLevels(t, n, []int{0, 3, 3}, 0, 0, -1, -1, 1)
	isPath(t, n, []int{3, 1, 0}, 0, 2, backward(0), backward(1))
	isNoPath(t, n, []int{3, 1, 0}, 0, 3, api.OK)
	isPath(t, n, []int{0, 0, 2}, 0, 3, backward(2))
	// Along, back, along.
	zigzag := api.Net{Nodes: 4, Arcs: []api.Arc{{From: 0, To: 1, Cap: 1}, {From: 2, To: 1, Cap: 1}, {From: 2, To: 3, Cap: 1}}}
	isPath(t, zigzag, []int{0, 1, 0}, 0, 3, there(0), backward(1), there(2))
	isNoPath(t, zigzag, []int{0, 0, 0}, 0, 3, api.OK)
}

func TestNodeToWhichSeveralStepsLead(t *testing.T) {
	// 4 is reached from 1, 2 and 3, at three levels and over two arcs each.
	n := api.Net{Nodes: 5, Arcs: []api.Arc{
		{From: 3, To: 4, Cap: 1}, {From: 3, To: 4, Cap: 1}, {From: 2, To: 4, Cap: 1}, {From: 2, To: 4, Cap: 1}, {From: 1, To: 4, Cap: 1}, {From: 1, To: 4, Cap: 1},
		{From: 2, To: 3, Cap: 1}, {From: 1, To: 2, Cap: 1}, {From: 0, To: 1, Cap: 1},
	}}
	isPath(t, n, []int{0, 0, 0, 0, 0, 0, 0, 0, 0}, 0, 4, there(8), there(4))
	isPath(t, n, []int{0, 0, 0, 0, 1, 0, 0, 0, 0}, 0, 4, there(8), there(5))
	isPath(t, n, []int{0, 0, 0, 0, 1, 1, 0, 0, 0}, 0, 4, there(8), there(7), there(2))
	isPath(t, n, []int{0, 0, 1, 1, 1, 1, 0, 0, 0}, 0, 4, there(8), there(7), there(6), there(0))
	isPath(t, n, []int{1, 0, 1, 1, 1, 1, 0, 0, 0}, 0, 4, there(8), there(7), there(6), there(1))
	isNoPath(t, n, []int{1, 1, 1, 1, 1, 1, 0, 0, 0}, 0, 4, api.OK)
	isLevels(t, n, []int{1, 1, 1, 1, 1, 1, 0, 0, 0}, 0, 0, 1, 2, 3, -1)
	isLevels(t, n, []int{0, 0, 0, 0, 0, 0, 0, 0, 0}, 0, 0, 1, 2, 3, 2)
}

func TestOrderInWhichNodesAreFound(t *testing.T) {
	// The nodes of one level are gone through as they were found, not by number:
	// 3 is found before 1, so that 5 is found from 3.
	n := api.Net{Nodes: 6, Arcs: []api.Arc{
		{From: 0, To: 4, Cap: 1}, {From: 0, To: 2, Cap: 1}, {From: 2, To: 1, Cap: 1}, {From: 4, To: 3, Cap: 1}, {From: 1, To: 5, Cap: 1}, {From: 3, To: 5, Cap: 1},
	}}
	isPath(t, n, make([]int, 6), 0, 5, there(0), there(3), there(5))
	isPath(t, n, []int{1, 0, 0, 0, 0, 0}, 0, 5, there(1), there(2), there(4))
	isLevels(t, n, make([]int, 6), 0, 0, 2, 1, 2, 1, 3)
}

func TestSinkAtTheFirstStepAndAtTheLast(t *testing.T) {
	// A star: of the nodes around 0, t is found by the first step, or the last.
	n := api.Net{Nodes: 50}
	for node := 1; node < 50; node++ {
		n.Arcs = append(n.Arcs, api.Arc{From: 0, To: node, Cap: 1})
	}
	f := make([]int, 49)
	isPath(t, n, f, 0, 1, there(0))
	isPath(t, n, f, 0, 49, there(48))
	isLevels(t, n, f, 0, append([]int{0}, slices.Repeat([]int{1}, 49)...)...)
	// What lies behind t makes no difference, nor that steps lead back from it.
	ring := line(4, 1)
	ring.Arcs = append(ring.Arcs, api.Arc{From: 3, To: 0, Cap: 1}, api.Arc{From: 1, To: 0, Cap: 1})
	isPath(t, ring, make([]int, 5), 0, 1, there(0))
	isPath(t, ring, make([]int, 5), 0, 3, there(0), there(1), there(2))
	isPath(t, ring, make([]int, 5), 1, 0, there(4))
	isPath(t, ring, []int{0, 0, 0, 1, 1}, 0, 3, backward(3))
}

func TestSearchEndsWhenTheSinkIsFound(t *testing.T) {
	// From 0 to 1, 2 and 3, and from 1 to 4: what would be found after t is not.
	n := api.Net{Nodes: 5, Arcs: []api.Arc{{From: 0, To: 1, Cap: 1}, {From: 0, To: 2, Cap: 1}, {From: 0, To: 3, Cap: 1}, {From: 1, To: 4, Cap: 1}}}
	flowing, err := load(n, make([]int, 4))
	if err != api.OK {
		t.Fatalf("load: %d", err)
	}
	for sink, want := range [][]int{1: {0, 1, -1, -1, -1}, 2: {0, 1, 1, -1, -1}, 3: {0, 1, 1, 1, -1}, 4: {0, 1, 1, 1, 2}} {
		if levels := flowing.search(0, sink).levels; sink > 0 && !slices.Equal(levels, want) {
			t.Errorf("Ways: the search from 0 for %d found %v, want %v", sink, levels, want)
		}
	}
}

func TestFlowsNeedNotBeBalanced(t *testing.T) {
	n := line(4, 5)
	isPath(t, n, []int{0, 4, 1}, 0, 3, there(0), there(1), there(2))
	isNoPath(t, n, []int{0, 5, 0}, 0, 3, api.OK)
	isLevels(t, n, []int{0, 5, 0}, 0, 0, 1, -1, -1)
	isLevels(t, n, []int{0, 5, 0}, 2, -1, 1, 0, 1)
	isNoPath(t, n, []int{0, 5, 0}, 3, 0, api.OK)
	isPath(t, n, []int{1, 5, 2}, 3, 0, backward(2), backward(1), backward(0))
}

func TestTimesAndHoldMakeNoDifference(t *testing.T) {
	next := numbers(86)
	for _, n := range nets() {
		other := api.Net{Nodes: n.Nodes, Hold: !n.Hold, Arcs: slices.Clone(n.Arcs)}
		for i := range other.Arcs {
			other.Arcs[i].Time = next(twenty + 1)
		}
		for _, f := range flows(next, n) {
			s, sink := next(n.Nodes), next(n.Nodes)
			levels, _ := Levels(n, f, s)
			if l, err := Levels(other, f, s); !slices.Equal(l, levels) || err != api.OK {
				t.Errorf("H1: %v of %v with other Times: %v %d, want %v", f, n, l, err, levels)
			}
			l, ok, err := Path(n, f, s, sink)
			if m, is, errM := Path(other, f, s, sink); !slices.Equal(l, m) || ok != is || err != errM {
				t.Errorf("H2: %v of %v with other Times: %v %v %d, want %v %v %d", f, n, m, is, errM, l, ok, err)
			}
		}
	}
}

func TestFlowIncreasedUntilThereIsNoPath(t *testing.T) {
	next := numbers(87)
	increased := 0
	for _, n := range nets() {
		if n.Nodes < 2 {
			continue
		}
		f, last := make([]int, len(n.Arcs)), 0
		for {
			l, ok, err := Path(n, f, 0, n.Nodes-1)
			if err != api.OK || len(l) < last && ok {
				t.Fatalf("H2, H3: %v of %v: %v %d after a path of %d steps", f, n, l, err, last)
			}
			if !ok {
				break
			}
			last, increased = len(l), increased+1
			k := most
			for _, x := range l {
				room, _ := static.Room(n, f, x)
				k = min(k, room)
			}
			f, _ = static.Push(n, f, l, k)
		}
		testPath(t, n, f, 0, n.Nodes-1)
		testLevels(t, n, f, next(n.Nodes))
	}
	if increased < 300 {
		t.Errorf("only %d paths", increased)
	}
}

func TestArgumentsStay(t *testing.T) {
	next := numbers(88)
	all := append(nets(), api.Net{}, api.Net{Nodes: 51, Arcs: someArcs(3)}, api.Net{Nodes: 1, Arcs: someArcs(202)},
		api.Net{Nodes: 2, Arcs: []api.Arc{{To: 1}, {To: 2}, {Cap: 1}, {Cap: twenty + 1}}})
	for i, n := range all {
		for _, f := range append(flows(next, n), []int{-1, 3}) {
			arcs, flow := slices.Clone(n.Arcs), slices.Clone(f)
			shorter := n
			shorter.Arcs = n.Arcs[:len(n.Arcs)/2]
			for _, ends := range [][2]int{{0, n.Nodes - 1}, {n.Nodes - 1, 0}, {0, 0}, {-1, most}} {
				Levels(n, f, ends[0])
				Path(n, f, ends[0], ends[1])
				Levels(shorter, f[:min(len(f), len(n.Arcs)/2)], ends[0])
				Path(shorter, f[:min(len(f), len(n.Arcs)/2)], ends[0], ends[1])
			}
			if !slices.Equal(n.Arcs, arcs) || !slices.Equal(f, flow) {
				t.Fatalf("R3: network %d: %v %v became %v %v", i, arcs, flow, n.Arcs, f)
			}
		}
	}
}

func TestResultsAreApart(t *testing.T) {
	n, f := line(4, 5), []int{1, 2, 3, 4}[:3]
	for range 3 {
		isLevels(t, n, f, 1, 1, 0, 1, 2)
		isPath(t, n, f, 0, 3, there(0), there(1), there(2))
		levels, _ := Levels(n, f, 1)
		l, _, _ := Path(n, f, 0, 3)
		for i := range levels[:cap(levels)] {
			levels[:cap(levels)][i] = -7
		}
		for i := range l[:cap(l)] {
			l[:cap(l)][i] = backward(9)
		}
		if !slices.Equal(f[:4], []int{1, 2, 3, 4}) || !slices.Equal(n.Arcs, line(4, 5).Arcs) {
			t.Fatalf("R3: a change of the results made the flow %v and the arcs %v", f[:4], n.Arcs)
		}
	}
}

func TestEarlierCallsMakeNoDifference(t *testing.T) {
	n := line(3, 5)
	for range 3 {
		isPath(t, n, []int{3, 3}, 0, 2, there(0), there(1))
		isNoPath(t, n, []int{5, 3}, 0, 2, api.OK)
		isLevels(t, n, []int{5, 3}, 0, 0, -1, -1)
		isRefused(t, api.Net{Nodes: 51}, nil, 0, 1, api.ErrLimit)
		testAll(t, line(50, 1), make([]int, 49))
	}
}

func TestExamples(t *testing.T) {
	n := api.Net{Nodes: 3, Arcs: []api.Arc{{From: 0, To: 1, Cap: 5}, {From: 1, To: 2, Cap: 5}}}
	isPath(t, n, []int{0, 0}, 0, 2, there(0), there(1))
	isNoPath(t, n, []int{5, 5}, 0, 2, api.OK)
	isLevels(t, n, []int{5, 5}, 0, 0, -1, -1)
}
