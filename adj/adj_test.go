package adj

import (
	"math"
	"slices"
	"testing"

	"ebbtide/api"
)

const (
	most  = math.MaxInt64
	least = math.MinInt64
	// twenty is what an arc's Cap and Time may be at most.
	twenty = 1048576
)

// numbers returns a function that returns one number after the other, the same
// ones in each run.
func numbers(seed uint64) func(below int) int {
	return func(below int) int {
		seed = seed*6364136223846793005 + 1442695040888963407
		return int(seed>>33) % below
	}
}

// The plain ways of working out what the chapter asks for, each by another
// method than the package's.

// incidentAnew returns for each node the indices of the arcs whose From, and
// those whose To, it is.
func incidentAnew(n api.Net) (out, in [][]int) {
	for node := range n.Nodes {
		var leaving, entering []int
		for i, a := range n.Arcs {
			if a.From == node {
				leaving = append(leaving, i)
			}
			if a.To == node {
				entering = append(entering, i)
			}
		}
		out, in = append(out, leaving), append(in, entering)
	}
	return out, in
}

// hopsAnew returns the first number of arcs with which a walk ends at a node.
func hopsAnew(n api.Net, from int) []int {
	first := slices.Repeat([]int{-1}, n.Nodes)
	at := make([]bool, n.Nodes)
	at[from] = true
	for arcs := range n.Nodes {
		next := make([]bool, n.Nodes)
		for node, here := range at {
			if here && first[node] == -1 {
				first[node] = arcs
			}
		}
		for _, a := range n.Arcs {
			next[a.To] = next[a.To] || at[a.From]
		}
		at = next
	}
	return first
}

// fastestAnew returns the least times, made less along arcs until none changes.
func fastestAnew(n api.Net, from int) []int {
	times := slices.Repeat([]int{most}, n.Nodes)
	times[from] = 0
	for changed := true; changed; {
		changed = false
		for _, a := range n.Arcs {
			if times[a.From] != most && times[a.From]+a.Time < times[a.To] {
				times[a.To] = times[a.From] + a.Time
				changed = true
			}
		}
	}
	for node, time := range times {
		if time == most {
			times[node] = -1
		}
	}
	return times
}

// isOrder reports whether l has each node once and no arc leads to its own From
// or to a node before it.
func isOrder(n api.Net, l []int) bool {
	at := slices.Repeat([]int{-1}, n.Nodes)
	for position, node := range l {
		if node < 0 || node >= n.Nodes || at[node] != -1 {
			return false
		}
		at[node] = position
	}
	if len(l) != n.Nodes {
		return false
	}
	return !slices.ContainsFunc(n.Arcs, func(a api.Arc) bool { return at[a.To] <= at[a.From] })
}

// orderAnew returns at each position the smallest node left that no arc enters
// from a node that is left.
func orderAnew(n api.Net) ([]int, bool) {
	var l []int
	for range n.Nodes {
		node := 0
		for node < n.Nodes && !isFree(n, l, node) {
			node++
		}
		if node == n.Nodes {
			return nil, false
		}
		l = append(l, node)
	}
	return l, true
}

// isFree reports whether a node is not in l and all arcs to it are from nodes in
// l.
func isFree(n api.Net, l []int, node int) bool {
	if slices.Contains(l, node) {
		return false
	}
	for _, a := range n.Arcs {
		if a.To == node && !slices.Contains(l, a.From) {
			return false
		}
	}
	return true
}

// rows returns all orders of the numbers from 0 to n - 1, the smallest first.
func rows(n int) [][]int {
	out := [][]int{nil}
	for range n {
		var longer [][]int
		for _, l := range out {
			for k := range n {
				if !slices.Contains(l, k) {
					longer = append(longer, append(slices.Clone(l), k))
				}
			}
		}
		out = longer
	}
	return out
}

// sameLists reports whether two lists of lists are equal.
func sameLists(a, b [][]int) bool { return slices.EqualFunc(a, b, slices.Equal[[]int]) }

// testIncident holds Out and In against F1.
func testIncident(t *testing.T, n api.Net) {
	t.Helper()
	wantOut, wantIn := incidentAnew(n)
	if out, err := Out(n); !sameLists(out, wantOut) || err != api.OK {
		t.Errorf("F1: Out of %v: %v %d, want %v", n, out, err, wantOut)
	}
	if in, err := In(n); !sameLists(in, wantIn) || err != api.OK {
		t.Errorf("F1: In of %v: %v %d, want %v", n, in, err, wantIn)
	}
}

// testDistances holds Hops and Fastest from a node against F2, F4 and F5.
func testDistances(t *testing.T, n api.Net, from int) {
	t.Helper()
	hops, err := Hops(n, from)
	if want := hopsAnew(n, from); !slices.Equal(hops, want) || err != api.OK {
		t.Fatalf("F2: Hops of %v from %d: %v %d, want %v", n, from, hops, err, want)
	}
	times, err := Fastest(n, from)
	if want := fastestAnew(n, from); !slices.Equal(times, want) || err != api.OK {
		t.Fatalf("F4: Fastest of %v from %d: %v %d, want %v", n, from, times, err, want)
	}
	if hops[from] != 0 || times[from] != 0 {
		t.Errorf("F2, F4: %v: %d hops and a time of %d from %d to itself", n, hops[from], times[from], from)
	}
	for i, a := range n.Arcs {
		if hops[a.From] == -1 {
			continue
		}
		if hops[a.To] == -1 || hops[a.To] > hops[a.From]+1 {
			t.Errorf("F5: %v from %d: hops %v along arc %d", n, from, hops, i)
		}
		if times[a.To] == -1 || times[a.To] > times[a.From]+a.Time {
			t.Errorf("F5: %v from %d: times %v along arc %d", n, from, times, i)
		}
	}
}

// testOrder holds Order against F3.
func testOrder(t *testing.T, n api.Net) {
	t.Helper()
	l, ok, err := Order(n)
	want, wantOk := orderAnew(n)
	if !slices.Equal(l, want) || ok != wantOk || err != api.OK {
		t.Errorf("F3: Order of %v: %v %t %d, want %v %t", n, l, ok, err, want, wantOk)
	}
	if ok && !isOrder(n, l) {
		t.Errorf("F3: Order of %v: %v is none", n, l)
	}
}

// testAll holds all calls against the chapter, from every node.
func testAll(t *testing.T, n api.Net) {
	t.Helper()
	testIncident(t, n)
	testOrder(t, n)
	for from := range n.Nodes {
		testDistances(t, n, from)
	}
}

// someArcs returns so many arcs from 0 to itself.
func someArcs(n int) []api.Arc {
	l := make([]api.Arc, n)
	for i := range l {
		l[i] = api.Arc{Cap: i, Time: 2 * i}
	}
	return l
}

// line returns a network whose arcs lead from each node to the one after it, or
// before it, with that Time.
func line(nodes, time int, back bool) api.Net {
	n := api.Net{Nodes: nodes}
	for node := 1; node < nodes; node++ {
		a := api.Arc{From: node - 1, To: node, Cap: 1, Time: time}
		if back {
			a.From, a.To = a.To, a.From
		}
		n.Arcs = append(n.Arcs, a)
	}
	return n
}

// mixed returns a network of that many nodes and arcs of all kinds or, with an
// order of the nodes, of those arcs alone that lead forward in it.
func mixed(next func(below int) int, nodes, arcs int, order []int) api.Net {
	edges := []int{0, 0, 1, 2, 3, 7, 1000, twenty - 1, twenty}
	n := api.Net{Nodes: nodes, Hold: next(2) == 0}
	for range arcs {
		a := api.Arc{From: next(nodes), To: next(nodes), Cap: edges[next(len(edges))], Time: edges[next(len(edges))]}
		if order != nil {
			low, high := min(a.From, a.To), max(a.From, a.To)
			if low == high {
				continue
			}
			a.From, a.To = order[low], order[high]
		}
		n.Arcs = append(n.Arcs, a)
	}
	return n
}

// shuffled returns the numbers from 0 to n - 1 in some order.
func shuffled(next func(below int) int, n int) []int {
	var l []int
	for k := range n {
		l = slices.Insert(l, next(k+1), k)
	}
	return l
}

// nets returns networks that are right: the smallest, the greatest, and ones
// with and without an order.
func nets() []api.Net {
	out := []api.Net{
		{Nodes: 1}, {Nodes: 1, Hold: true, Arcs: []api.Arc{}}, {Nodes: 1, Arcs: someArcs(1)}, {Nodes: 1, Arcs: someArcs(200)},
		{Nodes: 50}, {Nodes: 50, Arcs: someArcs(200)}, line(50, 0, false), line(50, twenty, true),
		{Nodes: 2, Arcs: []api.Arc{{To: 1, Time: 7}, {To: 1, Cap: 2, Time: 5}, {To: 1, Time: 5}, {To: 1, Time: 6}}},
		{Nodes: 2, Arcs: []api.Arc{{To: 1}, {From: 1}}},
	}
	next := numbers(6)
	for nodes := 1; nodes <= 50; nodes++ {
		for _, arcs := range []int{nodes / 2, nodes, 2 * nodes, next(201), 200} {
			arcs = min(arcs, 200)
			out = append(out, mixed(next, nodes, arcs, nil), mixed(next, nodes, arcs, shuffled(next, nodes)))
		}
	}
	return out
}

func TestNets(t *testing.T) {
	for _, n := range nets() {
		testAll(t, n)
	}
}

func TestSmallMixedNets(t *testing.T) {
	next := numbers(7)
	for range 5000 {
		nodes := 1 + next(7)
		testAll(t, mixed(next, nodes, next(3*nodes), nil))
		testAll(t, mixed(next, nodes, next(3*nodes), shuffled(next, nodes)))
	}
}

// subsets calls do with the network of each subset of the arcs.
func subsets(nodes int, arcs []api.Arc, do func(n api.Net)) {
	for set := range 1 << len(arcs) {
		n := api.Net{Nodes: nodes}
		for i, a := range arcs {
			if set>>i&1 == 1 {
				n.Arcs = append(n.Arcs, a)
			}
		}
		do(n)
	}
}

// allArcs returns an arc from each node to each, to itself only if loops.
func allArcs(nodes int, loops bool) []api.Arc {
	var l []api.Arc
	for from := range nodes {
		for to := range nodes {
			if loops || from != to {
				l = append(l, api.Arc{From: from, To: to, Time: len(l) * 5 % 7})
			}
		}
	}
	return l
}

func TestAllSmallNets(t *testing.T) {
	for nodes := 1; nodes <= 3; nodes++ {
		subsets(nodes, allArcs(nodes, true), func(n api.Net) { testAll(t, n) })
	}
	subsets(4, allArcs(4, false), func(n api.Net) { testAll(t, n) })
}

// firstOrder returns, of all rows of the nodes, the first one that is an order.
func firstOrder(n api.Net, all [][]int) ([]int, bool) {
	for _, l := range all {
		if isOrder(n, l) {
			return l, true
		}
	}
	return nil, false
}

func TestOrderIsTheFirstOfAll(t *testing.T) {
	for nodes := 1; nodes <= 4; nodes++ {
		all := rows(nodes)
		subsets(nodes, allArcs(nodes, nodes < 4), func(n api.Net) {
			want, wantOk := firstOrder(n, all)
			if l, ok, err := Order(n); !slices.Equal(l, want) || ok != wantOk || err != api.OK {
				t.Errorf("F3: Order of %v: %v %t %d, want %v %t", n, l, ok, err, want, wantOk)
			}
		})
	}
}

// isRefused fails unless all calls return the error and nothing else.
func isRefused(t *testing.T, n api.Net, from int, want api.Errno) {
	t.Helper()
	if l, err := Out(n); len(l) != 0 || err != want {
		t.Errorf("F1: Out: %d nodes, %d arcs: %v %d, want %d", n.Nodes, len(n.Arcs), l, err, want)
	}
	if l, err := In(n); len(l) != 0 || err != want {
		t.Errorf("F1: In: %d nodes, %d arcs: %v %d, want %d", n.Nodes, len(n.Arcs), l, err, want)
	}
	if l, ok, err := Order(n); len(l) != 0 || ok || err != want {
		t.Errorf("F3: Order: %d nodes, %d arcs: %v %t %d, want %d", n.Nodes, len(n.Arcs), l, ok, err, want)
	}
	isRefusedFrom(t, n, from, want)
}

// isRefusedFrom fails unless Hops and Fastest return the error and nothing else.
func isRefusedFrom(t *testing.T, n api.Net, from int, want api.Errno) {
	t.Helper()
	if l, err := Hops(n, from); len(l) != 0 || err != want {
		t.Errorf("F2: Hops from %d: %d nodes, %d arcs: %v %d, want %d", from, n.Nodes, len(n.Arcs), l, err, want)
	}
	if l, err := Fastest(n, from); len(l) != 0 || err != want {
		t.Errorf("F4: Fastest from %d: %d nodes, %d arcs: %v %d, want %d", from, n.Nodes, len(n.Arcs), l, err, want)
	}
}

func TestErrorsOfCheckComeFirst(t *testing.T) {
	right := api.Arc{To: 1, Cap: 3, Time: 4}
	wrong := api.Arc{From: 2, To: 1}
	great := api.Arc{To: 1, Time: twenty + 1}
	for _, c := range []struct {
		nodes int
		arcs  []api.Arc
		want  api.Errno
	}{
		{0, nil, api.ErrNet}, {-1, nil, api.ErrNet}, {least, nil, api.ErrNet}, {0, []api.Arc{great}, api.ErrNet}, {0, someArcs(201), api.ErrNet},
		{51, nil, api.ErrLimit}, {most, nil, api.ErrLimit}, {51, []api.Arc{wrong}, api.ErrLimit},
		{1, someArcs(201), api.ErrLimit}, {50, someArcs(5000), api.ErrLimit}, {2, append([]api.Arc{wrong}, someArcs(200)...), api.ErrLimit},
		{2, []api.Arc{{From: -1}}, api.ErrNet}, {2, []api.Arc{{From: 2}}, api.ErrNet}, {2, []api.Arc{{From: least}}, api.ErrNet},
		{2, []api.Arc{{To: -1}}, api.ErrNet}, {2, []api.Arc{{To: 2}}, api.ErrNet}, {2, []api.Arc{{To: most}}, api.ErrNet},
		{2, []api.Arc{{Cap: -1}}, api.ErrNet}, {2, []api.Arc{{Time: -1}}, api.ErrNet}, {2, []api.Arc{{To: 1, Time: least}}, api.ErrNet},
		{2, []api.Arc{{Cap: twenty + 1}}, api.ErrLimit}, {2, []api.Arc{{Time: twenty + 1}}, api.ErrLimit}, {2, []api.Arc{{To: 1, Time: most}}, api.ErrLimit},
		{2, []api.Arc{right, wrong, great}, api.ErrNet}, {2, []api.Arc{right, great, wrong}, api.ErrLimit},
		{2, append(someArcs(199), wrong), api.ErrNet}, {2, append(someArcs(199), great), api.ErrLimit},
	} {
		for _, from := range []int{0, 1, -1, c.nodes, most, least} {
			isRefused(t, api.Net{Nodes: c.nodes, Arcs: c.arcs}, from, c.want)
		}
	}
}

func TestBeginningsThatAreNoNodes(t *testing.T) {
	for _, n := range nets() {
		for _, from := range []int{-1, -2, -n.Nodes, least, least + 1, n.Nodes, n.Nodes + 1, 51, 1 << 32, most} {
			isRefusedFrom(t, n, from, api.ErrArg)
		}
		for _, from := range []int{0, n.Nodes - 1} {
			if l, err := Hops(n, from); len(l) != n.Nodes || err != api.OK {
				t.Errorf("F2: Hops from %d of %d nodes: %v %d", from, n.Nodes, l, err)
			}
			if l, err := Fastest(n, from); len(l) != n.Nodes || err != api.OK {
				t.Errorf("F4: Fastest from %d of %d nodes: %v %d", from, n.Nodes, l, err)
			}
		}
	}
}

// isDistances fails unless those are the hops and the times from a node.
func isDistances(t *testing.T, n api.Net, from int, wantHops, wantTimes []int) {
	t.Helper()
	if l, err := Hops(n, from); !slices.Equal(l, wantHops) || err != api.OK {
		t.Errorf("F2: Hops of %v from %d: %v %d, want %v", n, from, l, err, wantHops)
	}
	if l, err := Fastest(n, from); !slices.Equal(l, wantTimes) || err != api.OK {
		t.Errorf("F4: Fastest of %v from %d: %v %d, want %v", n, from, l, err, wantTimes)
	}
}

// isInOrder fails unless that is the order of the network.
func isInOrder(t *testing.T, n api.Net, want ...int) {
	t.Helper()
	if l, ok, err := Order(n); !slices.Equal(l, want) || !ok || err != api.OK {
		t.Errorf("F3: Order of %v: %v %t %d, want %v", n, l, ok, err, want)
	}
}

// hasNoOrder fails unless the network has none.
func hasNoOrder(t *testing.T, n api.Net) {
	t.Helper()
	if l, ok, err := Order(n); len(l) != 0 || ok || err != api.OK {
		t.Errorf("F3: Order of %v: %v %t %d, want none", n, l, ok, err)
	}
}

func TestOneNode(t *testing.T) {
	for _, arcs := range []int{0, 1, 2, 200} {
		n := api.Net{Nodes: 1, Arcs: someArcs(arcs)}
		var want []int
		for i := range arcs {
			want = append(want, i)
		}
		out, errOut := Out(n)
		in, errIn := In(n)
		if !sameLists(out, [][]int{want}) || !sameLists(in, [][]int{want}) || errOut != api.OK || errIn != api.OK {
			t.Errorf("F1: %d arcs: %v %d, %v %d", arcs, out, errOut, in, errIn)
		}
		isDistances(t, n, 0, []int{0}, []int{0})
		if arcs == 0 {
			isInOrder(t, n, 0)
		} else {
			hasNoOrder(t, n)
		}
	}
}

func TestNoArcs(t *testing.T) {
	for _, nodes := range []int{1, 2, 3, 49, 50} {
		n := api.Net{Nodes: nodes}
		var order []int
		for node := range nodes {
			order = append(order, node)
			alone := slices.Repeat([]int{-1}, nodes)
			alone[node] = 0
			isDistances(t, n, node, alone, alone)
		}
		isInOrder(t, n, order...)
		for _, call := range []func(api.Net) ([][]int, api.Errno){Out, In} {
			if l, err := call(n); !sameLists(l, make([][]int, nodes)) || err != api.OK {
				t.Errorf("F1: %d nodes: %v %d", nodes, l, err)
			}
		}
	}
}

func TestArcsFromANodeToItself(t *testing.T) {
	n := api.Net{Nodes: 3, Arcs: []api.Arc{{From: 1, To: 1, Time: 4}, {From: 0, To: 1, Time: 2}, {From: 1, To: 1}, {From: 1, To: 2, Time: 3}}}
	out, _ := Out(n)
	in, _ := In(n)
	if !sameLists(out, [][]int{{1}, {0, 2, 3}, nil}) || !sameLists(in, [][]int{nil, {0, 1, 2}, {3}}) {
		t.Errorf("F1: %v %v", out, in)
	}
	isDistances(t, n, 0, []int{0, 1, 2}, []int{0, 2, 5})
	isDistances(t, n, 1, []int{-1, 0, 1}, []int{-1, 0, 3})
	hasNoOrder(t, n)
	for node := range 3 {
		hasNoOrder(t, api.Net{Nodes: 3, Arcs: []api.Arc{{From: node, To: node}}})
	}
}

func TestSeveralArcsBetweenTheSameNodes(t *testing.T) {
	for fast := range 4 {
		n := api.Net{Nodes: 3, Arcs: []api.Arc{{To: 2, Time: 9}, {To: 2, Time: 9}, {To: 2, Time: 9}, {To: 2, Time: 9}, {From: 2, To: 1, Time: 1}}}
		n.Arcs[fast].Time = 3
		isDistances(t, n, 0, []int{0, 2, 1}, []int{0, 4, 3})
		isInOrder(t, n, 0, 2, 1)
		out, _ := Out(n)
		in, _ := In(n)
		if !sameLists(out, [][]int{{0, 1, 2, 3}, nil, {4}}) || !sameLists(in, [][]int{nil, {4}, {0, 1, 2, 3}}) {
			t.Errorf("F1: %v %v", out, in)
		}
	}
}

func TestEachOfManyArcsIsFaster(t *testing.T) {
	// So many entries are made, each one outdating the one before it.
	n := api.Net{Nodes: 3}
	for i := range 199 {
		n.Arcs = append(n.Arcs, api.Arc{From: 0, To: 1, Time: 1000 - i})
	}
	n.Arcs = append(n.Arcs, api.Arc{From: 1, To: 2, Time: 1})
	isDistances(t, n, 0, []int{0, 1, 2}, []int{0, 802, 803})
	isInOrder(t, n, 0, 1, 2)
}

func TestEachNodeMakesALaterOneFaster(t *testing.T) {
	n := line(50, 1, false)
	for node := range 48 {
		for _, to := range []int{49, 48, 47} {
			if node < to {
				n.Arcs = append(n.Arcs, api.Arc{From: node, To: to, Time: 1000 - 2*node})
			}
		}
	}
	var times []int
	for node := range 50 {
		times = append(times, node)
	}
	testAll(t, n)
	if l, err := Fastest(n, 0); !slices.Equal(l, times) || err != api.OK {
		t.Errorf("F4: %v %d", l, err)
	}
}

func TestCapsMakeNoDifference(t *testing.T) {
	for _, n := range nets() {
		free := n
		free.Hold = !n.Hold
		free.Arcs = slices.Clone(n.Arcs)
		for i := range free.Arcs {
			free.Arcs[i].Cap = []int{0, 1, twenty}[i%3]
		}
		for _, from := range []int{0, n.Nodes / 2, n.Nodes - 1} {
			hops, _ := Hops(n, from)
			times, _ := Fastest(n, from)
			isDistances(t, free, from, hops, times)
		}
		l, ok, _ := Order(n)
		if m, okToo, err := Order(free); !slices.Equal(l, m) || ok != okToo || err != api.OK {
			t.Errorf("F3: %v with other Caps: %v %t %d, want %v %t", n, m, okToo, err, l, ok)
		}
	}
	n := api.Net{Nodes: 2, Arcs: []api.Arc{{To: 1, Cap: 0, Time: 1}, {To: 1, Cap: twenty, Time: 2}}}
	isDistances(t, n, 0, []int{0, 1}, []int{0, 1})
}

func TestTimesOfLines(t *testing.T) {
	for _, time := range []int{0, 1, 2, twenty - 1, twenty} {
		for _, nodes := range []int{2, 3, 50} {
			n, back := line(nodes, time, false), line(nodes, time, true)
			for from := range nodes {
				hops, times := slices.Repeat([]int{-1}, nodes), slices.Repeat([]int{-1}, nodes)
				for node := from; node < nodes; node++ {
					hops[node], times[node] = node-from, (node-from)*time
				}
				isDistances(t, n, from, hops, times)
				slices.Reverse(hops)
				slices.Reverse(times)
				isDistances(t, back, nodes-1-from, hops, times)
			}
		}
	}
}

func TestMoreArcsMayBeFaster(t *testing.T) {
	for nodes := 3; nodes <= 50; nodes++ {
		n := line(nodes, 1, false)
		last := nodes - 1
		for _, direct := range []int{last - 1, last, last + 1, twenty} {
			n.Arcs = append(n.Arcs[:last:last], api.Arc{From: 0, To: last, Time: direct})
			hops, _ := Hops(n, 0)
			times, _ := Fastest(n, 0)
			if hops[last] != 1 || times[last] != min(direct, last) {
				t.Errorf("F2, F4: %d nodes, directly in %d: %d hops, a time of %d", nodes, direct, hops[last], times[last])
			}
		}
	}
	n := api.Net{Nodes: 5, Arcs: []api.Arc{
		{From: 0, To: 4, Time: 10}, {From: 0, To: 1, Time: 0}, {From: 1, To: 4, Time: 8}, {From: 1, To: 2, Time: 0}, {From: 2, To: 3, Time: 5}, {From: 3, To: 4, Time: 0}, {From: 2, To: 4, Time: 6},
	}}
	isDistances(t, n, 0, []int{0, 1, 2, 3, 1}, []int{0, 0, 0, 5, 5})
}

func TestNodesToWhichNoPathLeads(t *testing.T) {
	n := api.Net{Nodes: 6, Arcs: []api.Arc{{From: 1, To: 0}, {From: 2, To: 1, Time: 4}, {From: 3, To: 4, Time: 1}, {From: 4, To: 3, Time: 1}, {From: 5, To: 5}}}
	isDistances(t, n, 0, []int{0, -1, -1, -1, -1, -1}, []int{0, -1, -1, -1, -1, -1})
	isDistances(t, n, 2, []int{2, 1, 0, -1, -1, -1}, []int{4, 4, 0, -1, -1, -1})
	isDistances(t, n, 4, []int{-1, -1, -1, 1, 0, -1}, []int{-1, -1, -1, 1, 0, -1})
	isDistances(t, n, 5, []int{-1, -1, -1, -1, -1, 0}, []int{-1, -1, -1, -1, -1, 0})
}

func TestSmallestNodeAtEachPosition(t *testing.T) {
	for nodes := 1; nodes <= 50; nodes++ {
		for position := range nodes {
			n := api.Net{Nodes: nodes}
			var want []int
			for node := 1; node <= position; node++ {
				n.Arcs = append(n.Arcs, api.Arc{From: node, To: 0})
				want = append(want, node)
			}
			want = append(want, 0)
			for node := position + 1; node < nodes; node++ {
				want = append(want, node)
			}
			isInOrder(t, n, want...)
		}
	}
}

func TestOrderTakesANodeAsSoonAsItIsPossible(t *testing.T) {
	// 0 is possible only behind 2, and then comes ahead of 3 and 4, which were
	// possible before it.
	isInOrder(t, api.Net{Nodes: 5, Arcs: []api.Arc{{From: 2, To: 0}}}, 1, 2, 0, 3, 4)
	isInOrder(t, api.Net{Nodes: 4, Arcs: []api.Arc{{From: 2, To: 0}, {From: 1, To: 3}}}, 1, 2, 0, 3)
	isInOrder(t, api.Net{Nodes: 4, Arcs: []api.Arc{{From: 3, To: 0}, {From: 3, To: 1}, {From: 3, To: 1}}}, 2, 3, 0, 1)
	isInOrder(t, api.Net{Nodes: 5, Arcs: []api.Arc{{From: 0, To: 2}, {From: 0, To: 3}, {From: 4, To: 1}, {From: 1, To: 0}}}, 4, 1, 0, 2, 3)
	back := make([]int, 50)
	for position := range back {
		back[position] = 49 - position
	}
	isInOrder(t, line(50, 3, true), back...)
	slices.Reverse(back)
	isInOrder(t, line(50, 3, false), back...)
}

func TestCyclesHaveNoOrder(t *testing.T) {
	for nodes := 2; nodes <= 50; nodes++ {
		n := line(nodes, 1, nodes%2 == 0)
		ends := api.Arc{From: nodes - 1, To: 0}
		if nodes%2 == 0 {
			ends = api.Arc{From: 0, To: nodes - 1}
		}
		n.Arcs = append(n.Arcs, ends)
		hasNoOrder(t, n)
		testAll(t, n)
	}
}

func TestPartsWithAndWithoutAnOrder(t *testing.T) {
	cycle := []api.Arc{{From: 4, To: 5}, {From: 5, To: 6}, {From: 6, To: 4}}
	for _, arcs := range [][]api.Arc{
		{{From: 1, To: 0}, {From: 2, To: 1}},
		{{From: 0, To: 4}, {From: 1, To: 2}},
		{{From: 6, To: 0}, {From: 0, To: 1}, {From: 3, To: 2}},
		{{From: 0, To: 5}, {From: 4, To: 7}, {From: 7, To: 3}},
	} {
		n := api.Net{Nodes: 8, Arcs: append(slices.Clone(arcs), cycle...)}
		hasNoOrder(t, n)
		testAll(t, n)
		for left := range cycle {
			n.Arcs = append(slices.Clone(arcs), slices.Delete(slices.Clone(cycle), left, left+1)...)
			if l, ok, err := Order(n); !isOrder(n, l) || !ok || err != api.OK {
				t.Errorf("F3: Order of %v: %v %t %d", n, l, ok, err)
			}
			testAll(t, n)
		}
	}
}

func TestEachArcLeavesOneNodeAndEntersOne(t *testing.T) {
	for _, n := range nets() {
		for _, call := range []func(api.Net) ([][]int, api.Errno){Out, In} {
			lists, err := call(n)
			if len(lists) != n.Nodes || err != api.OK {
				t.Fatalf("F1: %d lists for %d nodes, %d", len(lists), n.Nodes, err)
			}
			all := slices.Concat(lists...)
			slices.Sort(all)
			for i, arc := range all {
				if len(all) != len(n.Arcs) || arc != i {
					t.Fatalf("F5: %v: %v", n, lists)
				}
			}
			for node, l := range lists {
				if !slices.IsSorted(l) {
					t.Errorf("F1: %v: the arcs of %d are %v", n, node, l)
				}
			}
		}
	}
}

// callAll makes every call.
func callAll(n api.Net, from int) {
	Out(n)
	In(n)
	Hops(n, from)
	Order(n)
	Fastest(n, from)
}

func TestArgumentsStay(t *testing.T) {
	all := append(nets(), api.Net{}, api.Net{Nodes: 51, Arcs: someArcs(3)}, api.Net{Nodes: 1, Arcs: someArcs(202)},
		api.Net{Nodes: 2, Arcs: []api.Arc{{To: 1}, {To: 2}, {Cap: -1}, {Cap: twenty + 1}}})
	for i, n := range all {
		was := slices.Clone(n.Arcs)
		shorter := n
		shorter.Arcs = n.Arcs[:len(n.Arcs)/2]
		for _, from := range []int{0, n.Nodes - 1, n.Nodes, -1} {
			callAll(n, from)
			callAll(shorter, from)
		}
		if !slices.Equal(n.Arcs, was) {
			t.Errorf("R3: network %d: %v became %v", i, was, n.Arcs)
		}
	}
}

// spoil writes into a list and into what may follow it in memory.
func spoil(l []int) {
	l = l[:cap(l)]
	for i := range l {
		l[i] = -7
	}
}

func TestListsAreApart(t *testing.T) {
	for _, n := range nets() {
		wantOut, wantIn := incidentAnew(n)
		out, _ := Out(n)
		in, _ := In(n)
		for node := range n.Nodes {
			spoil(out[node])
			spoil(in[node])
			if !sameLists(out[node+1:], wantOut[node+1:]) || !sameLists(in[node+1:], wantIn[node+1:]) {
				t.Fatalf("R3: %v: %v %v after a change of the lists of %d", n, out, in, node)
			}
		}
	}
}

func TestEarlierCallsMakeNoDifference(t *testing.T) {
	n := api.Net{Nodes: 3, Arcs: []api.Arc{{From: 2, To: 0, Time: 5}, {From: 0, To: 1, Time: 1}}}
	for range 3 {
		isDistances(t, n, 2, []int{1, 2, 0}, []int{5, 6, 0})
		isInOrder(t, n, 2, 0, 1)
		testAll(t, n)
		hops, _ := Hops(n, 2)
		times, _ := Fastest(n, 2)
		order, _, _ := Order(n)
		out, _ := Out(n)
		in, _ := In(n)
		for _, l := range append(append(out, in...), hops, times, order) {
			clear(l)
		}
		callAll(api.Net{Nodes: 51}, 0)
		callAll(line(50, twenty, true), 49)
	}
}

func TestExamples(t *testing.T) {
	n := api.Net{Nodes: 3, Arcs: []api.Arc{{From: 0, To: 1, Time: 5}, {From: 1, To: 2, Time: 1}, {From: 0, To: 2, Time: 9}}}
	isDistances(t, n, 0, []int{0, 1, 1}, []int{0, 5, 6})
	isInOrder(t, n, 0, 1, 2)
}
