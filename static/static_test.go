package static

import (
	"math"
	"slices"
	"testing"

	"ebbtide/api"
)

const (
	most  = math.MaxInt64
	least = math.MinInt64
	// twenty is what an arc's Cap and Time may be at most.
	twenty = 1048576
)

// numbers returns a function that returns one number after the other, the same
// ones in each run.
func numbers(seed uint64) func(below int) int {
	return func(below int) int {
		seed = seed*6364136223846793005 + 1442695040888963407
		return int(seed>>33) % below
	}
}

// The plain ways of working out what the chapter asks for, each by another
// method than the package's. The networks that they are given are right.

// flowAnew reports whether f is a flow.
func flowAnew(n api.Net, f []int) bool {
	within := 0
	for i := range min(len(f), len(n.Arcs)) {
		if max(0, min(f[i], n.Arcs[i].Cap)) == f[i] {
			within++
		}
	}
	return within == len(n.Arcs) && within == len(f)
}

// endsAnew returns the error of Ends.
func endsAnew(n api.Net, s, t int) api.Errno {
	for from := range n.Nodes {
		for to := range n.Nodes {
			if from != to && from == s && to == t {
				return api.OK
			}
		}
	}
	return api.ErrEnds
}

// balanceAnew returns for each node the sum of what leaves it minus the sum of
// what enters it.
func balanceAnew(n api.Net, f []int) []int {
	var out []int
	for node := range n.Nodes {
		leaves, enters := 0, 0
		for i, a := range n.Arcs {
			if a.From == node {
				leaves += f[i]
			}
			if a.To == node {
				enters += f[i]
			}
		}
		out = append(out, leaves-enters)
	}
	return out
}

// checkAnew returns what Check does.
func checkAnew(n api.Net, s, t int, f []int) (int, api.Errno) {
	if err := endsAnew(n, s, t); err != api.OK {
		return 0, err
	}
	if !flowAnew(n, f) {
		return 0, api.ErrFlow
	}
	b := balanceAnew(n, f)
	value := b[s]
	b[s], b[t] = 0, 0
	if !slices.Equal(b, make([]int, n.Nodes)) {
		return 0, api.ErrFlow
	}
	return value, api.OK
}

// roomAnew returns the room of a step of an arc that has so much flow.
func roomAnew(a api.Arc, flow int, back bool) int {
	if !back {
		return a.Cap - flow
	}
	return flow
}

// isArc reports whether that is the index of an arc.
func isArc(n api.Net, i int) bool { return i >= 0 && i < len(n.Arcs) }

// flowBefore returns the flow of an arc after the first steps, by how many of
// them are along it and how many back.
func flowBefore(f []int, first []api.Step, arc, k int) int {
	along := 0
	for _, x := range first {
		switch x {
		case api.Step{Arc: arc}:
			along++
		case api.Step{Arc: arc, Back: true}:
			along--
		}
	}
	return f[arc] + along*k
}

// pushAnew returns what Push does.
func pushAnew(n api.Net, f []int, l []api.Step, k int) ([]int, api.Errno) {
	if !flowAnew(n, f) {
		return nil, api.ErrFlow
	}
	if k < 0 {
		return nil, api.ErrArg
	}
	for i, x := range l {
		if !isArc(n, x.Arc) {
			return nil, api.ErrArg
		}
		if roomAnew(n.Arcs[x.Arc], flowBefore(f, l[:i], x.Arc, k), x.Back) < k {
			return nil, api.ErrFlow
		}
	}
	var out []int
	for arc := range n.Arcs {
		out = append(out, flowBefore(f, l, arc, k))
	}
	return out, api.OK
}

// costAnew returns the sum, each unit of flow of an arc added by its bits.
func costAnew(n api.Net, f []int) int {
	sum := 0
	for i, a := range n.Arcs {
		for bit := range 21 {
			if f[i]>>bit&1 == 1 {
				sum += a.Time << bit
			}
		}
	}
	return sum
}

// testEnds holds Ends and Check against G1 and G3.
func testEnds(t *testing.T, n api.Net, s, sink int, f []int) {
	t.Helper()
	if err := Ends(n, s, sink); err != endsAnew(n, s, sink) {
		t.Errorf("G1: Ends of %d nodes from %d to %d: %d", n.Nodes, s, sink, err)
	}
	value, err := Check(n, s, sink, f)
	if want, wantErr := checkAnew(n, s, sink, f); value != want || err != wantErr {
		t.Errorf("G3: Check of %v from %d to %d of %v: %d %d, want %d %d", n, s, sink, f, value, err, want, wantErr)
	}
}

// testFlow holds Balance and Cost against G2, G6 and G7.
func testFlow(t *testing.T, n api.Net, f []int) {
	t.Helper()
	balances, errB := Balance(n, f)
	cost, errC := Cost(n, f)
	if !flowAnew(n, f) {
		if len(balances) != 0 || errB != api.ErrFlow || cost != 0 || errC != api.ErrFlow {
			t.Errorf("G2, G6: %v of %v: %v %d, %d %d, want 71", f, n, balances, errB, cost, errC)
		}
		return
	}
	if want := balanceAnew(n, f); !slices.Equal(balances, want) || errB != api.OK {
		t.Errorf("G2: Balance of %v of %v: %v %d, want %v", f, n, balances, errB, want)
	}
	if want := costAnew(n, f); cost != want || errC != api.OK {
		t.Errorf("G6: Cost of %v of %v: %d %d, want %d", f, n, cost, errC, want)
	}
	if sum(balances) != 0 {
		t.Errorf("G7: the balances of %v of %v are %v", f, n, balances)
	}
}

// testRoom holds Room against G4.
func testRoom(t *testing.T, n api.Net, f []int, x api.Step) {
	t.Helper()
	room, err := Room(n, f, x)
	switch {
	case !flowAnew(n, f):
		if room != 0 || err != api.ErrFlow {
			t.Errorf("G4: Room of %v in %v of %v: %d %d, want 71", x, f, n, room, err)
		}
	case !isArc(n, x.Arc):
		if room != 0 || err != api.ErrArg {
			t.Errorf("G4: Room of %v in %v of %v: %d %d, want 1", x, f, n, room, err)
		}
	default:
		if want := roomAnew(n.Arcs[x.Arc], f[x.Arc], x.Back); room != want || err != api.OK {
			t.Errorf("G4: Room of %v in %v of %v: %d %d, want %d", x, f, n, room, err, want)
		}
	}
}

// testPush holds Push against G5 and G7.
func testPush(t *testing.T, n api.Net, f []int, l []api.Step, k int) {
	t.Helper()
	after, err := Push(n, f, l, k)
	if want, wantErr := pushAnew(n, f, l, k); !slices.Equal(after, want) || err != wantErr {
		t.Errorf("G5: Push of %d along %v from %v of %v: %v %d, want %v %d", k, l, f, n, after, err, want, wantErr)
	}
	if err != api.OK {
		return
	}
	if again, err := Push(n, after, opposite(l), k); !slices.Equal(again, f) || err != api.OK {
		t.Errorf("G7: Push of %d along %v from %v of %v and back: %v %d", k, l, f, n, again, err)
	}
}

func sum(l []int) int {
	total := 0
	for _, k := range l {
		total += k
	}
	return total
}

// opposite returns the steps the other way, the last one first.
func opposite(l []api.Step) []api.Step {
	var out []api.Step
	for _, x := range slices.Backward(l) {
		out = append(out, api.Step{Arc: x.Arc, Back: !x.Back})
	}
	return out
}

// someArcs returns so many arcs from 0 to itself.
func someArcs(n int) []api.Arc {
	l := make([]api.Arc, n)
	for i := range l {
		l[i] = api.Arc{Cap: i, Time: 2 * i}
	}
	return l
}

// line returns a network whose arcs lead from each node to the one after it,
// with that Cap and Time.
func line(nodes, width, time int) api.Net {
	n := api.Net{Nodes: nodes}
	for node := 1; node < nodes; node++ {
		n.Arcs = append(n.Arcs, api.Arc{From: node - 1, To: node, Cap: width, Time: time})
	}
	return n
}

// along returns the steps along the arcs from the first to the one before last.
func along(first, last int) []api.Step {
	var l []api.Step
	for arc := first; arc < last; arc++ {
		l = append(l, api.Step{Arc: arc})
	}
	return l
}

// mixed returns a network of that many nodes and arcs of all kinds.
func mixed(next func(below int) int, nodes, arcs int) api.Net {
	edges := []int{0, 1, 2, 3, 7, 1000, twenty - 1, twenty}
	n := api.Net{Nodes: nodes, Hold: next(2) == 0}
	for range arcs {
		n.Arcs = append(n.Arcs, api.Arc{From: next(nodes), To: next(nodes), Cap: edges[next(len(edges))], Time: edges[next(len(edges))]})
	}
	return n
}

// nets returns networks that are right, the smallest and the greatest among
// them.
func nets() []api.Net {
	out := []api.Net{
		{Nodes: 1}, {Nodes: 1, Hold: true, Arcs: []api.Arc{}}, {Nodes: 1, Arcs: someArcs(1)}, {Nodes: 1, Arcs: someArcs(200)},
		{Nodes: 2}, {Nodes: 50}, {Nodes: 50, Arcs: someArcs(200)}, line(50, 0, 0), line(50, twenty, twenty), line(2, 1, twenty),
		{Nodes: 2, Arcs: []api.Arc{{To: 1, Cap: 7}, {To: 1, Cap: 2, Time: 5}, {To: 1, Cap: 2, Time: 5}, {To: 1}}},
		{Nodes: 2, Arcs: []api.Arc{{To: 1, Cap: 4}, {From: 1, Cap: 6}, {From: 1, To: 1, Cap: 1}}},
	}
	next := numbers(7)
	for nodes := 1; nodes <= 50; nodes++ {
		for _, arcs := range []int{nodes / 2, nodes, 2 * nodes, next(201), 200} {
			out = append(out, mixed(next, nodes, min(arcs, 200)))
		}
	}
	return out
}

// flows returns flows of the network: that of zeros, the greatest, and others.
func flows(next func(below int) int, n api.Net) [][]int {
	out := make([][]int, 4)
	for _, a := range n.Arcs {
		for i, k := range []int{0, a.Cap, next(a.Cap + 1), []int{0, a.Cap / 2, a.Cap}[next(3)]} {
			out[i] = append(out[i], k)
		}
	}
	return out
}

// noFlows returns lists of numbers that are no flows of the network.
func noFlows(next func(below int) int, n api.Net) [][]int {
	var out [][]int
	for _, f := range flows(next, n) {
		out = append(out, append(slices.Clone(f), 0), append(slices.Clone(f), 1, 2), append([]int{0}, f...))
		if len(f) == 0 {
			continue
		}
		out = append(out, f[1:], f[:len(f)-1], nil, []int{})
		for _, place := range []int{0, len(f) / 2, len(f) - 1} {
			for _, k := range []int{-1, least, least + 1, n.Arcs[place].Cap + 1, twenty + 1, most, 1 << 32, -1 << 32} {
				g := slices.Clone(f)
				g[place] = k
				out = append(out, g)
			}
		}
	}
	return out
}

// someSteps returns steps along and back, of arcs that exist and others.
func someSteps(n api.Net) []api.Step {
	var l []api.Step
	for _, arc := range []int{0, 1, len(n.Arcs) - 1, len(n.Arcs), len(n.Arcs) + 1, -1, -2, 200, 1 << 32, -1 << 32, most, least} {
		l = append(l, api.Step{Arc: arc}, api.Step{Arc: arc, Back: true})
	}
	return l
}

// numbersAround returns numbers that may be nodes, and ones that are none.
func numbersAround(nodes int) []int {
	return []int{0, nodes - 1, nodes / 2, -1, nodes, nodes + 1, -nodes, 50, 51, 1 << 32, -1 << 32, most, least}
}

func TestEndsOfNets(t *testing.T) {
	next := numbers(71)
	for _, n := range nets() {
		for _, f := range append(flows(next, n), nil, []int{-1}) {
			for _, s := range numbersAround(n.Nodes) {
				for _, sink := range numbersAround(n.Nodes) {
					testEnds(t, n, s, sink, f)
				}
			}
		}
	}
}

func TestAllEndsOfSmallNets(t *testing.T) {
	for nodes := 1; nodes <= 50; nodes++ {
		for s := -2; s <= nodes+1; s++ {
			for sink := -2; sink <= nodes+1; sink++ {
				testEnds(t, api.Net{Nodes: nodes}, s, sink, nil)
			}
		}
	}
}

func TestFlowsOfNets(t *testing.T) {
	next := numbers(72)
	for _, n := range nets() {
		for _, f := range append(flows(next, n), noFlows(next, n)...) {
			testFlow(t, n, f)
			for _, x := range someSteps(n) {
				testRoom(t, n, f, x)
			}
		}
	}
}

func TestRoomOfEachStep(t *testing.T) {
	next := numbers(73)
	for _, n := range nets() {
		for _, f := range flows(next, n) {
			for arc, a := range n.Arcs {
				there, errThere := Room(n, f, api.Step{Arc: arc})
				back, errBack := Room(n, f, api.Step{Arc: arc, Back: true})
				if there != a.Cap-f[arc] || back != f[arc] || errThere != api.OK || errBack != api.OK {
					t.Fatalf("G4: arc %d of %v in %v: %d %d, %d %d", arc, n, f, there, errThere, back, errBack)
				}
			}
		}
	}
}

func TestPushesInNets(t *testing.T) {
	next := numbers(74)
	for _, n := range nets() {
		for _, f := range flows(next, n) {
			for _, k := range []int{0, 1, 2, next(twenty), -1, most, least} {
				for _, x := range someSteps(n) {
					testPush(t, n, f, []api.Step{x}, k)
				}
				for range 5 {
					testPush(t, n, f, someOf(next, n), k)
				}
			}
		}
		for _, f := range noFlows(next, n) {
			for _, k := range []int{0, 1, -1, most, least} {
				testPush(t, n, f, nil, k)
				testPush(t, n, f, someOf(next, n), k)
			}
		}
	}
}

// someOf returns a few steps of arcs that exist, now and then with one behind
// them whose arc does not.
func someOf(next func(below int) int, n api.Net) []api.Step {
	var l []api.Step
	for range next(6) * min(len(n.Arcs), 1) {
		l = append(l, api.Step{Arc: next(len(n.Arcs)), Back: next(2) == 0})
	}
	if next(4) == 0 {
		l = append(l, api.Step{Arc: len(n.Arcs), Back: next(2) == 0})
	}
	return l
}

func TestPushAtTheRoom(t *testing.T) {
	next := numbers(75)
	for _, n := range nets() {
		for _, f := range flows(next, n) {
			for arc := 0; arc < len(n.Arcs); arc += 1 + len(n.Arcs)/20 {
				for _, back := range []bool{false, true} {
					room := roomAnew(n.Arcs[arc], f[arc], back)
					for _, k := range []int{0, room - 1, room, room + 1, twenty + 1, most, least} {
						testPush(t, n, f, []api.Step{{Arc: arc, Back: back}}, k)
					}
				}
			}
		}
	}
}

// products calls do with each list that has an item of each of the choices.
func products[T any](choices [][]T, do func(l []T)) {
	lists := [][]T{nil}
	for _, items := range choices {
		var longer [][]T
		for _, l := range lists {
			for _, x := range items {
				longer = append(longer, append(slices.Clone(l), x))
			}
		}
		lists = longer
	}
	for _, l := range lists {
		do(l)
	}
}

func TestAllSmallFlows(t *testing.T) {
	var arcs []api.Arc
	for place := range 27 {
		arcs = append(arcs, api.Arc{From: place % 3, To: place / 3 % 3, Cap: place / 9, Time: place * 5 % 7})
	}
	amounts := []int{-1, 0, 1, 2, 3}
	products([][]api.Arc{arcs, arcs}, func(l []api.Arc) {
		n := api.Net{Nodes: 3, Arcs: l}
		products([][]int{amounts, amounts}, func(f []int) {
			testFlow(t, n, f)
			for ends := range 9 {
				testEnds(t, n, ends/3, ends%3, f)
			}
		})
	})
}

func TestAllShortLists(t *testing.T) {
	var steps []api.Step
	for arc := -1; arc <= 2; arc++ {
		steps = append(steps, api.Step{Arc: arc}, api.Step{Arc: arc, Back: true})
	}
	for caps := range 9 {
		n := api.Net{Nodes: 2, Arcs: []api.Arc{{To: 1, Cap: caps % 3}, {From: 1, Cap: caps / 3}}}
		products([][]int{{-1, 0, 1, 2}, {-1, 0, 1, 2}}, func(f []int) {
			for length := range 4 {
				products(slices.Repeat([][]api.Step{steps}, length), func(l []api.Step) {
					for k := -1; k <= 3; k++ {
						testPush(t, n, f, l, k)
					}
				})
			}
		})
	}
}

// isRefused fails unless all calls return the error and nothing else.
func isRefused(t *testing.T, n api.Net, s, sink int, f []int, x api.Step, k int, want api.Errno) {
	t.Helper()
	ends := Ends(n, s, sink)
	balances, errB := Balance(n, f)
	value, errV := Check(n, s, sink, f)
	room, errR := Room(n, f, x)
	after, errP := Push(n, f, []api.Step{x}, k)
	none, errN := Push(n, f, nil, k)
	cost, errC := Cost(n, f)
	for call, err := range []api.Errno{ends, errB, errV, errR, errP, errN, errC} {
		if err != want {
			t.Errorf("E1: %d nodes, %d arcs: error %d is %d, want %d", n.Nodes, len(n.Arcs), call, err, want)
		}
	}
	if len(balances) != 0 || value != 0 || room != 0 || len(after) != 0 || len(none) != 0 || cost != 0 {
		t.Errorf("R1: with an error: %v %d %d %v %v %d", balances, value, room, after, none, cost)
	}
}

func TestErrorsOfCheckComeFirst(t *testing.T) {
	right := api.Arc{To: 1, Cap: 3, Time: 4}
	wrong := api.Arc{From: 2, To: 1}
	great := api.Arc{To: 1, Time: twenty + 1}
	for _, c := range []struct {
		nodes int
		arcs  []api.Arc
		want  api.Errno
	}{
		{0, nil, api.ErrNet}, {-1, nil, api.ErrNet}, {least, nil, api.ErrNet}, {0, []api.Arc{great}, api.ErrNet}, {0, someArcs(201), api.ErrNet},
		{51, nil, api.ErrLimit}, {most, nil, api.ErrLimit}, {51, []api.Arc{wrong}, api.ErrLimit},
		{1, someArcs(201), api.ErrLimit}, {50, someArcs(5000), api.ErrLimit}, {2, append([]api.Arc{wrong}, someArcs(200)...), api.ErrLimit},
		{2, []api.Arc{{From: -1}}, api.ErrNet}, {2, []api.Arc{{From: 2}}, api.ErrNet}, {2, []api.Arc{{From: least}}, api.ErrNet},
		{2, []api.Arc{{To: -1}}, api.ErrNet}, {2, []api.Arc{{To: 2}}, api.ErrNet}, {2, []api.Arc{{To: most}}, api.ErrNet},
		{2, []api.Arc{{Cap: -1}}, api.ErrNet}, {2, []api.Arc{{Time: -1}}, api.ErrNet}, {2, []api.Arc{{To: 1, Time: least}}, api.ErrNet},
		{2, []api.Arc{{Cap: twenty + 1}}, api.ErrLimit}, {2, []api.Arc{{Time: twenty + 1}}, api.ErrLimit}, {2, []api.Arc{{To: 1, Cap: most}}, api.ErrLimit},
		{2, []api.Arc{right, wrong, great}, api.ErrNet}, {2, []api.Arc{right, great, wrong}, api.ErrLimit},
		{2, append(someArcs(199), wrong), api.ErrNet}, {2, append(someArcs(199), great), api.ErrLimit},
	} {
		n := api.Net{Nodes: c.nodes, Arcs: c.arcs}
		for _, f := range [][]int{make([]int, len(c.arcs)), nil, {-1}, {twenty + 2}} {
			for _, arc := range []int{0, -1, len(c.arcs), most} {
				isRefused(t, n, 0, 1, f, api.Step{Arc: arc}, 0, c.want)
				isRefused(t, n, 1, 1, f, api.Step{Arc: arc, Back: true}, -1, c.want)
				isRefused(t, n, -1, most, f, api.Step{Arc: arc}, most, c.want)
			}
		}
	}
}

func TestWhichErrorComesFirst(t *testing.T) {
	n := line(3, 5, 1)
	for _, f := range [][]int{nil, {1}, {1, 1, 1}, {-1, 0}, {0, 6}, {3, 2}} {
		for _, ends := range [][2]int{{0, 0}, {2, 2}, {-1, 2}, {0, 3}, {most, least}, {-1, -1}} {
			if value, err := Check(n, ends[0], ends[1], f); value != 0 || err != api.ErrEnds {
				t.Errorf("G3: Check from %d to %d of %v: %d %d, want 70", ends[0], ends[1], f, value, err)
			}
		}
		if value, err := Check(n, 0, 2, f); value != 0 || err != api.ErrFlow {
			t.Errorf("G3: Check of %v: %d %d, want 71", f, value, err)
		}
	}
	for _, f := range [][]int{nil, {1}, {1, 1, 1}, {-1, 0}, {0, 6}} {
		for _, arc := range []int{-1, 2, most, least} {
			if room, err := Room(n, f, api.Step{Arc: arc}); room != 0 || err != api.ErrFlow {
				t.Errorf("G4: Room of arc %d in %v: %d %d, want 71", arc, f, room, err)
			}
			if after, err := Push(n, f, []api.Step{{Arc: arc}}, -1); len(after) != 0 || err != api.ErrFlow {
				t.Errorf("G5: Push along arc %d from %v: %v %d, want 71", arc, f, after, err)
			}
		}
	}
}

func TestFlowThatDoesNotArrive(t *testing.T) {
	n := line(4, 5, 1)
	for _, c := range []struct {
		f    []int
		want api.Errno
	}{
		{[]int{0, 0, 0}, api.OK}, {[]int{5, 5, 5}, api.OK}, {[]int{2, 2, 2}, api.OK},
		{[]int{5, 5, 4}, api.ErrFlow}, {[]int{4, 5, 5}, api.ErrFlow}, {[]int{5, 4, 5}, api.ErrFlow}, {[]int{0, 1, 0}, api.ErrFlow},
	} {
		want := 0
		if c.want == api.OK {
			want = c.f[0]
		}
		if value, err := Check(n, 0, 3, c.f); value != want || err != c.want {
			t.Errorf("G3: Check of %v: %d %d, want %d %d", c.f, value, err, want, c.want)
		}
		if value, err := Check(n, 3, 0, c.f); value != -want || err != c.want {
			t.Errorf("G3: Check of %v from the last: %d %d, want %d %d", c.f, value, err, -want, c.want)
		}
	}
	// What stays at a node is allowed only at s and t.
	for s := range 4 {
		for sink := range 4 {
			testEnds(t, n, s, sink, []int{0, 3, 0})
			testEnds(t, n, s, sink, []int{4, 4, 0})
		}
	}
}

// isPush fails unless a push gives that flow.
func isPush(t *testing.T, n api.Net, f []int, l []api.Step, k int, want ...int) {
	t.Helper()
	if after, err := Push(n, f, l, k); !slices.Equal(after, want) || err != api.OK {
		t.Errorf("G5: Push of %d along %v from %v: %v %d, want %v", k, l, f, after, err, want)
	}
}

// isNoPush fails unless a push returns that error and nothing else.
func isNoPush(t *testing.T, n api.Net, f []int, l []api.Step, k int, want api.Errno) {
	t.Helper()
	if after, err := Push(n, f, l, k); len(after) != 0 || err != want {
		t.Errorf("G5: Push of %d along %v from %v: %v %d, want %d", k, l, f, after, err, want)
	}
}

func TestSameArcSeveralTimes(t *testing.T) {
	n := line(3, 5, 1)
	there, back := api.Step{Arc: 0}, api.Step{Arc: 0, Back: true}
	isPush(t, n, []int{1, 4}, []api.Step{there, there}, 2, 5, 4)
	isNoPush(t, n, []int{1, 4}, []api.Step{there, there, there}, 2, api.ErrFlow)
	isPush(t, n, []int{1, 4}, []api.Step{there, there, back, there}, 2, 5, 4)
	isPush(t, n, []int{0, 4}, []api.Step{there, back, there, back}, 5, 0, 4)
	isPush(t, n, []int{5, 4}, []api.Step{back, there, back}, 5, 0, 4)
	isNoPush(t, n, []int{0, 4}, []api.Step{back, there}, 5, api.ErrFlow)
	isNoPush(t, n, []int{5, 4}, []api.Step{there, back}, 1, api.ErrFlow)
	isPush(t, n, []int{5, 0}, []api.Step{there, there, back, {Arc: 1, Back: true}}, 0, 5, 0)
	isPush(t, n, []int{0, 4}, slices.Repeat([]api.Step{there, back}, 1000), 3, 0, 4)
	isPush(t, n, []int{0, 4}, slices.Repeat([]api.Step{there}, 5), 1, 5, 4)
	isNoPush(t, n, []int{0, 4}, slices.Repeat([]api.Step{there}, 6), 1, api.ErrFlow)
	twice := api.Net{Nodes: 2, Arcs: []api.Arc{{To: 1, Cap: 2}, {To: 1, Cap: 2}}}
	isPush(t, twice, []int{0, 2}, []api.Step{{Arc: 0}, {Arc: 1, Back: true}}, 2, 2, 0)
}

func TestErrorAtALaterStep(t *testing.T) {
	n := line(3, 5, 1)
	for _, far := range []int{-1, 2, 3, most, least} {
		isNoPush(t, n, []int{0, 0}, []api.Step{{Arc: 0}, {Arc: far}}, 2, api.ErrArg)
		isNoPush(t, n, []int{0, 0}, []api.Step{{Arc: 0}, {Arc: far, Back: true}}, 0, api.ErrArg)
		// The first step that is wrong says what is wrong.
		isNoPush(t, n, []int{4, 0}, []api.Step{{Arc: 0}, {Arc: far}}, 2, api.ErrFlow)
		isNoPush(t, n, []int{4, 0}, []api.Step{{Arc: far}, {Arc: 0}}, 2, api.ErrArg)
		isNoPush(t, n, []int{0, 0}, []api.Step{{Arc: 0}, {Arc: 1}, {Arc: 0, Back: true}, {Arc: 1}, {Arc: far}}, 3, api.ErrFlow)
	}
	isNoPush(t, n, []int{0, 4}, []api.Step{{Arc: 0}, {Arc: 1}}, 2, api.ErrFlow)
	isNoPush(t, n, []int{0, 4}, []api.Step{{Arc: 0}, {Arc: 1}}, most, api.ErrFlow)
	isNoPush(t, n, []int{0, 4}, []api.Step{{Arc: 0}, {Arc: 1}}, least, api.ErrArg)
}

func TestNoStep(t *testing.T) {
	n := line(3, 5, 1)
	for _, l := range [][]api.Step{nil, {}} {
		for _, k := range []int{0, 1, 5, 6, most} {
			isPush(t, n, []int{3, 2}, l, k, 3, 2)
		}
		for _, k := range []int{-1, -2, least} {
			isNoPush(t, n, []int{3, 2}, l, k, api.ErrArg)
		}
		isNoPush(t, n, []int{3, 6}, l, -1, api.ErrFlow)
		isPush(t, api.Net{Nodes: 1}, nil, l, 9)
	}
}

func TestNoArc(t *testing.T) {
	for _, nodes := range []int{1, 2, 50} {
		n := api.Net{Nodes: nodes}
		for _, f := range [][]int{nil, {}} {
			if b, err := Balance(n, f); !slices.Equal(b, make([]int, nodes)) || err != api.OK {
				t.Errorf("G2: %d nodes: %v %d", nodes, b, err)
			}
			if k, err := Cost(n, f); k != 0 || err != api.OK {
				t.Errorf("G6: %d nodes: %d %d", nodes, k, err)
			}
			for _, x := range someSteps(n) {
				testRoom(t, n, f, x)
				testPush(t, n, f, []api.Step{x}, 0)
			}
		}
	}
}

func TestArcsFromANodeToItself(t *testing.T) {
	n := api.Net{Nodes: 2, Arcs: []api.Arc{{To: 1, Cap: 4, Time: 1}, {From: 1, To: 1, Cap: 9, Time: 3}, {Cap: 2, Time: 5}}}
	if b, err := Balance(n, []int{4, 9, 2}); !slices.Equal(b, []int{4, -4}) || err != api.OK {
		t.Errorf("G2: %v %d", b, err)
	}
	if k, err := Check(n, 0, 1, []int{4, 9, 2}); k != 4 || err != api.OK {
		t.Errorf("G3: %d %d", k, err)
	}
	if k, err := Cost(n, []int{4, 9, 2}); k != 4+27+10 || err != api.OK {
		t.Errorf("G6: %d %d", k, err)
	}
	isPush(t, n, []int{0, 0, 0}, []api.Step{{Arc: 2}, {Arc: 0}, {Arc: 1}, {Arc: 1}}, 2, 2, 4, 2)
}

func TestGreatestFlow(t *testing.T) {
	for _, arcs := range []int{0, 1, 199, 200} {
		n, f := api.Net{Nodes: 2}, []int{}
		for range arcs {
			n.Arcs, f = append(n.Arcs, api.Arc{To: 1, Cap: twenty, Time: twenty}), append(f, twenty)
		}
		if k, err := Cost(n, f); k != arcs<<40 || err != api.OK {
			t.Errorf("G6: %d arcs: %d %d", arcs, k, err)
		}
		if k, err := Check(n, 0, 1, f); k != arcs<<20 || err != api.OK {
			t.Errorf("G3: %d arcs: %d %d", arcs, k, err)
		}
		if b, err := Balance(n, f); !slices.Equal(b, []int{arcs << 20, -arcs << 20}) || err != api.OK {
			t.Errorf("G2: %d arcs: %v %d", arcs, b, err)
		}
		testFlow(t, n, f)
	}
}

func TestTimesAndHoldMakeNoDifference(t *testing.T) {
	next := numbers(76)
	for _, n := range nets() {
		other := api.Net{Nodes: n.Nodes, Hold: !n.Hold, Arcs: slices.Clone(n.Arcs)}
		for i := range other.Arcs {
			other.Arcs[i].Time = next(twenty + 1)
		}
		for _, f := range flows(next, n) {
			b, _ := Balance(n, f)
			if c, err := Balance(other, f); !slices.Equal(b, c) || err != api.OK {
				t.Errorf("G2: %v of %v with other Times: %v %d, want %v", f, n, c, err, b)
			}
			testFlow(t, other, f)
		}
	}
}

// walk returns consecutive steps with room from a node, how much room all of
// them have together, and the node where they end.
func walk(next func(below int) int, n api.Net, f []int, from, length int) (l []api.Step, k, to int) {
	k, to = twenty, from
	for range length {
		var open []api.Step
		for arc, a := range n.Arcs {
			if a.From == to && f[arc] < a.Cap {
				open = append(open, api.Step{Arc: arc})
			}
			if a.To == to && f[arc] > 0 {
				open = append(open, api.Step{Arc: arc, Back: true})
			}
		}
		if len(open) == 0 {
			break
		}
		x := open[next(len(open))]
		k = min(k, roomAnew(n.Arcs[x.Arc], f[x.Arc], x.Back))
		if l = append(l, x); x.Back {
			to = n.Arcs[x.Arc].From
		} else {
			to = n.Arcs[x.Arc].To
		}
	}
	return l, k, to
}

func TestPushAlongConsecutiveSteps(t *testing.T) {
	next := numbers(77)
	pushed := 0
	for _, n := range append(nets(), nets()...) {
		for _, f := range flows(next, n) {
			from := next(n.Nodes)
			l, k, to := walk(next, n, f, from, 1+next(8))
			k = max(1, k/4)
			after, err := Push(n, f, l, k)
			testPush(t, n, f, l, k)
			if err != api.OK || len(l) == 0 {
				continue
			}
			pushed++
			want, _ := Balance(n, f)
			want[from] += k
			want[to] -= k
			if b, err := Balance(n, after); !slices.Equal(b, want) || err != api.OK {
				t.Errorf("G7: Push of %d along %v from %v of %v: balances %v %d, want %v", k, l, f, n, b, err, want)
			}
		}
	}
	if pushed < 500 {
		t.Errorf("only %d pushes", pushed)
	}
}

func TestFlowsFromSToT(t *testing.T) {
	next := numbers(78)
	checked := 0
	for _, n := range nets() {
		s, sink, f, want := next(n.Nodes), next(n.Nodes), make([]int, len(n.Arcs)), 0
		for range 60 {
			l, k, to := walk(next, n, f, s, 1+next(5))
			after, err := Push(n, f, l, max(1, k/3))
			if to != sink || err != api.OK || len(l) == 0 || s == sink {
				continue
			}
			f, want = after, want+max(1, k/3)
			checked++
			if value, err := Check(n, s, sink, f); value != want || err != api.OK {
				t.Errorf("G3: Check of %v from %d to %d of %v: %d %d, want %d", n, s, sink, f, value, err, want)
			}
			if b, err := Balance(n, f); b[s] != want || b[sink] != -want || err != api.OK {
				t.Errorf("G7: %v from %d to %d of %v: balances %v %d", n, s, sink, f, b, err)
			}
		}
	}
	if checked < 200 {
		t.Errorf("only %d flows", checked)
	}
}

func TestPushAlongTheLongestLine(t *testing.T) {
	n := line(50, twenty, 3)
	f := make([]int, 49)
	all := slices.Repeat([]int{twenty}, 49)
	isPush(t, n, f, along(0, 49), twenty, all...)
	isPush(t, n, all, opposite(along(0, 49)), twenty, f...)
	isNoPush(t, n, f, along(0, 49), twenty+1, api.ErrFlow)
	isNoPush(t, n, all, along(0, 49), 1, api.ErrFlow)
	isNoPush(t, n, f, along(0, 50), 1, api.ErrArg)
	if value, err := Check(n, 0, 49, all); value != twenty || err != api.OK {
		t.Errorf("G3: %d %d", value, err)
	}
	if cost, err := Cost(n, all); cost != 49*3*twenty || err != api.OK {
		t.Errorf("G6: %d %d", cost, err)
	}
}

// callAll makes every call.
func callAll(n api.Net, f []int, l []api.Step, k int) {
	Ends(n, 0, 1)
	Balance(n, f)
	Check(n, 0, 1, f)
	Cost(n, f)
	Push(n, f, l, k)
	for _, x := range l {
		Room(n, f, x)
	}
}

func TestArgumentsStay(t *testing.T) {
	next := numbers(79)
	all := append(nets(), api.Net{}, api.Net{Nodes: 51, Arcs: someArcs(3)}, api.Net{Nodes: 1, Arcs: someArcs(202)},
		api.Net{Nodes: 2, Arcs: []api.Arc{{To: 1}, {To: 2}, {Cap: 1}, {Cap: twenty + 1}}})
	for i, n := range all {
		l := append(along(0, min(len(n.Arcs), 3)), someSteps(n)...)
		for _, f := range append(flows(next, n), []int{-1, 3}) {
			arcs, flow, steps := slices.Clone(n.Arcs), slices.Clone(f), slices.Clone(l)
			shorter := n
			shorter.Arcs = n.Arcs[:len(n.Arcs)/2]
			for _, k := range []int{0, 1, 3, most, -1} {
				callAll(n, f, l, k)
				callAll(n, f, l[:2], k)
				callAll(shorter, f[:min(len(f), len(n.Arcs)/2)], l[:3], k)
			}
			if !slices.Equal(n.Arcs, arcs) || !slices.Equal(f, flow) || !slices.Equal(l, steps) {
				t.Fatalf("R3: network %d: %v %v %v became %v %v %v", i, arcs, flow, steps, n.Arcs, f, l)
			}
		}
	}
}

func TestResultsAreApart(t *testing.T) {
	n := line(4, 5, 1)
	f := []int{1, 2, 3, 4}[:3]
	for _, l := range [][]api.Step{nil, {}, along(0, 3)} {
		for _, k := range []int{0, 1} {
			after, _ := Push(n, f, l, k)
			balances, _ := Balance(n, f)
			for _, out := range [][]int{after, balances} {
				out = out[:cap(out)]
				for i := range out {
					out[i] = -7
				}
			}
			if !slices.Equal(f[:4], []int{1, 2, 3, 4}) {
				t.Fatalf("R3: Push of %d along %v: a change of the result made the flow %v", k, l, f[:4])
			}
		}
	}
}

func TestEarlierCallsMakeNoDifference(t *testing.T) {
	n := line(3, 5, 2)
	for range 3 {
		isPush(t, n, []int{3, 3}, along(0, 2), 2, 5, 5)
		isNoPush(t, n, []int{3, 3}, along(0, 2), 3, api.ErrFlow)
		testFlow(t, n, []int{3, 1})
		testEnds(t, n, 0, 2, []int{3, 3})
		callAll(api.Net{Nodes: 51}, nil, along(0, 2), 1)
		callAll(line(50, twenty, twenty), make([]int, 49), along(0, 49), twenty)
	}
}

func TestExamples(t *testing.T) {
	n := api.Net{Nodes: 3, Arcs: []api.Arc{{From: 0, To: 1, Cap: 5}, {From: 1, To: 2, Cap: 5}}}
	if value, err := Check(n, 0, 2, []int{3, 3}); value != 3 || err != api.OK {
		t.Errorf("G3: %d %d", value, err)
	}
	if value, err := Check(n, 0, 2, []int{3, 2}); value != 0 || err != api.ErrFlow {
		t.Errorf("G3: %d %d", value, err)
	}
	isPush(t, n, []int{3, 3}, along(0, 2), 2, 5, 5)
}
