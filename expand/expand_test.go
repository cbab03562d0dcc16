package expand

import (
	"cmp"
	"math"
	"math/big"
	"reflect"
	"slices"
	"testing"

	"ebbtide/api"
	"ebbtide/netfmt"
	"ebbtide/plan"
	"ebbtide/span"
	"ebbtide/table"
)

const (
	most  = math.MaxInt64
	least = math.MinInt64
	// twenty is what an arc's Cap and Time may be at most.
	twenty = 1048576
	// forty is the Cap of the arcs of waiting and of the ends.
	forty = 1099511627776
	// longest is the greatest horizon.
	longest = 1024
)

// numbers returns a function that returns one number after the other, the same
// ones in each run.
func numbers(seed uint64) func(below int) int {
	return func(below int) int {
		seed = seed*6364136223846793005 + 1442695040888963407
		return int(seed>>33) % below
	}
}

// arc returns an arc.
func arc(from, to, width, time int) api.Arc {
	return api.Arc{From: from, To: to, Cap: width, Time: time}
}

// move returns a movement of so much.
func move(place, at, amount int) api.Move {
	return api.Move{Arc: place, At: at, N: amount}
}

// slot returns a slot.
func slot(node, at int) api.Slot {
	return api.Slot{Node: node, At: at}
}

// trip is a network, its ends and a horizon.
type trip struct {
	api.Net
	s, sink, last int
}

// The plain ways of working out what the chapter asks for, each by another method
// than the package's.

// kinds of parts, in the order in which they stand at a point of time.
const (
	crosses = iota
	waits
	enters
	leaves
)

// part is an arc of an expanded network, and what it stands for: an arc or a node,
// and a point of time.
type part struct {
	api.Arc
	kind, item, at int
}

// compareParts is the order of the parts.
func compareParts(a, b part) int {
	return cmp.Or(cmp.Compare(max(a.kind, waits), max(b.kind, waits)), cmp.Compare(a.at, b.at), cmp.Compare(a.kind, b.kind), cmp.Compare(a.item, b.item))
}

// indicesAnew returns the index of each slot, by counting.
func indicesAnew(n api.Net, last int) map[api.Slot]int {
	indices := map[api.Slot]int{}
	for at := range last + 1 {
		for node := range n.Nodes {
			indices[slot(node, at)] = len(indices)
		}
	}
	return indices
}

// partsAnew returns the parts of an expanded network, by putting together those of
// each arc and of each node, and sorting them.
func partsAnew(x trip) []part {
	index := indicesAnew(x.Net, x.last)
	first, last := len(index), len(index)+1
	var parts []part
	for node := range x.Nodes {
		for at := range x.last + 1 {
			here := index[slot(node, at)]
			then, later := index[slot(node, at+1)]
			switch {
			case node == x.s:
				parts = append(parts, part{arc(first, here, forty, 0), enters, node, at})
			case node == x.sink:
				parts = append(parts, part{arc(here, last, forty, 0), leaves, node, at})
			case x.Hold && later:
				parts = append(parts, part{arc(here, then, forty, 0), waits, node, at})
			}
		}
	}
	for i, a := range x.Arcs {
		for at := range x.last + 1 {
			end, inTime := index[slot(a.To, at+a.Time)]
			if inTime && a.To != x.s && a.From != x.sink {
				parts = append(parts, part{arc(index[slot(a.From, at)], end, a.Cap, 0), crosses, i, at})
			}
		}
	}
	slices.SortFunc(parts, compareParts)
	return parts
}

// arcsOf returns the arcs of the parts.
func arcsOf(parts []part) []api.Arc {
	var out []api.Arc
	for _, p := range parts {
		out = append(out, p.Arc)
	}
	return out
}

// timesAnew returns a number times the number of points of time, of any size.
func timesAnew(last, number int) *big.Int {
	points := new(big.Int).Add(big.NewInt(int64(last)), big.NewInt(1))
	return points.Mul(points, big.NewInt(int64(number)))
}

// fitsAnew reports whether a network fits a horizon.
func fitsAnew(n api.Net, last int) bool {
	return netfmt.Check(n) == api.OK && last >= 0 && last <= longest &&
		timesAnew(last, n.Nodes).Cmp(big.NewInt(4000)) <= 0 && timesAnew(last, len(n.Arcs)).Cmp(big.NewInt(10000)) <= 0
}

// errorAnew returns the error that Build returns.
func errorAnew(x trip) api.Errno {
	switch {
	case netfmt.Check(x.Net) != api.OK:
		return netfmt.Check(x.Net)
	case x.s < 0 || x.sink < 0 || x.s >= x.Nodes || x.sink >= x.Nodes || x.s == x.sink:
		return api.ErrEnds
	case x.last < 0:
		return api.ErrArg
	case x.last > longest || !fitsAnew(x.Net, x.last):
		return api.ErrLimit
	}
	return api.OK
}

// isFlowAnew reports whether there is one number for each part, from 0 to its Cap.
func isFlowAnew(parts []part, f []int) bool {
	for i, k := range f {
		if i >= len(parts) || k < 0 || k > parts[i].Cap {
			return false
		}
	}
	return len(f) == len(parts)
}

// movesAnew returns the movements of a flow.
func movesAnew(parts []part, f []int) []api.Move {
	var out []api.Move
	for i, p := range parts {
		if p.kind == crosses && f[i] > 0 {
			out = append(out, move(p.item, p.at, f[i]))
		}
	}
	return out
}

// amountOf returns how much of a plan the part stands for, as the chapter's words
// have it. What does not fit has fitted again when all is summed up.
func amountOf(x trip, l []api.Move, p part) int {
	sum := 0
	for _, m := range l {
		if m.Arc < 0 || m.Arc >= len(x.Arcs) {
			continue
		}
		a := x.Arcs[m.Arc]
		switch p.kind {
		case crosses:
			if m.Arc == p.item && m.At == p.at {
				sum += m.N
			}
		case waits:
			if a.To == p.item && m.At+a.Time <= p.at {
				sum += m.N
			}
			if a.From == p.item && m.At <= p.at {
				sum -= m.N
			}
		case enters:
			if a.From == p.item && m.At == p.at {
				sum += m.N
			}
		case leaves:
			if a.To == p.item && m.At+a.Time == p.at {
				sum += m.N
			}
		}
	}
	return sum
}

// flowAnew returns the flow of a plan.
func flowAnew(x trip, parts []part, l []api.Move) []int {
	var out []int
	for _, p := range parts {
		out = append(out, amountOf(x, l, p))
	}
	return out
}

// balances returns for each node of a network what leaves it minus what enters it.
func balances(n api.Net, f []int) []int {
	out := make([]int, n.Nodes)
	for i, a := range n.Arcs {
		out[a.From] += f[i]
		out[a.To] -= f[i]
	}
	return out
}

// isBalanced reports whether the balance of each node but the last two is 0, and
// returns that of the first end.
func isBalanced(n api.Net, f []int) (value int, is bool) {
	all := balances(n, f)
	for _, k := range all[:n.Nodes-2] {
		if k != 0 {
			return 0, false
		}
	}
	return all[n.Nodes-2], true
}

// products calls do with each list that has so many of the items.
func products[T any](items []T, length int, do func(l []T)) {
	l := make([]T, length)
	var fill func(place int)
	fill = func(place int) {
		if place == length {
			do(l)
			return
		}
		for _, x := range items {
			l[place] = x
			fill(place + 1)
		}
	}
	fill(0)
}

// Flows of expanded networks, made without the package.

// stream is a network with a flow that is being increased.
type stream struct {
	api.Net
	at   [][]int // the indices of the arcs that begin or end at each node
	flow []int
}

// streamOf returns the network with the flow of zeros.
func streamOf(n api.Net) *stream {
	x := &stream{Net: n, at: make([][]int, n.Nodes), flow: make([]int, len(n.Arcs))}
	for i, a := range n.Arcs {
		x.at[a.From] = append(x.at[a.From], i)
		x.at[a.To] = append(x.at[a.To], i)
	}
	return x
}

// steps returns where the steps with room lead from a node, and by which arcs.
func (x *stream) steps(node int) (ends, arcs []int) {
	for _, i := range x.at[node] {
		a := x.Arcs[i]
		if a.From == node && x.flow[i] < a.Cap {
			ends, arcs = append(ends, a.To), append(arcs, i)
		}
		if a.To == node && x.flow[i] > 0 {
			ends, arcs = append(ends, a.From), append(arcs, i)
		}
	}
	return ends, arcs
}

// send increases the flow by at most so much along any path from one node to
// another one, and reports whether there was one.
func (x *stream) send(next func(below int) int, from, to, amount int) bool {
	came := map[int]int{from: -1}
	open := []int{from}
	for len(open) > 0 {
		i := next(len(open))
		node := open[i]
		open = slices.Delete(open, i, i+1)
		ends, arcs := x.steps(node)
		for j, end := range ends {
			if _, known := came[end]; !known {
				came[end] = arcs[j]
				open = append(open, end)
			}
		}
		if node == to {
			x.push(came, from, to, amount)
			return true
		}
	}
	return false
}

// push increases the flow along the path on which the node was come to.
func (x *stream) push(came map[int]int, from, to, amount int) {
	for node := to; node != from; {
		i := came[node]
		if x.Arcs[i].To == node {
			amount, node = min(amount, x.Arcs[i].Cap-x.flow[i]), x.Arcs[i].From
		} else {
			amount, node = min(amount, x.flow[i]), x.Arcs[i].To
		}
	}
	for node := to; node != from; {
		i := came[node]
		if x.Arcs[i].To == node {
			x.flow[i] += amount
			node = x.Arcs[i].From
		} else {
			x.flow[i] -= amount
			node = x.Arcs[i].To
		}
	}
}

// turn increases the flow by at most so much along any round that begins with an
// arc, if there is one.
func (x *stream) turn(next func(below int) int, i, amount int) {
	a := x.Arcs[i]
	if x.flow[i] == a.Cap {
		return
	}
	if a.From == a.To {
		x.flow[i] = min(a.Cap, x.flow[i]+amount)
		return
	}
	// Sent on by 1 from its end to its beginning, without itself.
	kept := x.flow[i]
	x.Arcs[i].Cap, x.flow[i] = 0, 0
	sent := x.send(next, a.To, a.From, 1)
	x.Arcs[i], x.flow[i] = a, kept
	if sent {
		x.flow[i]++
	}
}

// What fails unless a call answers as the chapter asks.

// isNothing reports whether that is no network.
func isNothing(n api.Net) bool {
	return n.Nodes == 0 && !n.Hold && len(n.Arcs) == 0
}

// isSlotNo fails unless Index and Place answer that error and nothing else.
func isSlotNo(t *testing.T, n api.Net, last int, x api.Slot, i int, want api.Errno) {
	t.Helper()
	if got, err := Index(n, last, x); got != 0 || err != want {
		t.Errorf("O2: %d nodes, %d arcs within %d: Index of %v: %d %d, want %d", n.Nodes, len(n.Arcs), last, x, got, err, want)
	}
	if got, err := Place(n, last, i); got != (api.Slot{}) || err != want {
		t.Errorf("O2: %d nodes, %d arcs within %d: Place of %d: %v %d, want %d", n.Nodes, len(n.Arcs), last, i, got, err, want)
	}
}

// isSlot fails unless that is the index of a slot.
func isSlot(t *testing.T, n api.Net, last int, x api.Slot, i int) {
	t.Helper()
	if got, err := Index(n, last, x); got != i || err != api.OK {
		t.Errorf("O2: %d nodes, %d arcs within %d: Index of %v: %d %d, want %d", n.Nodes, len(n.Arcs), last, x, got, err, i)
	}
	if got, err := Place(n, last, i); got != x || err != api.OK {
		t.Errorf("O2: %d nodes, %d arcs within %d: Place of %d: %v %d, want %v", n.Nodes, len(n.Arcs), last, i, got, err, x)
	}
}

// testFits holds Fits, and Index and Place of slots that are right and wrong, for
// any network and horizon.
func testFits(t *testing.T, n api.Net, last int) bool {
	t.Helper()
	want := fitsAnew(n, last)
	if is := Fits(n, last); is != want {
		t.Errorf("O1: %d nodes, %d arcs within %d: %v, want %v", n.Nodes, len(n.Arcs), last, is, want)
	}
	if !want {
		for i, node := range []int{0, 0, n.Nodes - 1, n.Nodes, -1, 1, most, least} {
			isSlotNo(t, n, last, slot(node, []int{0, last, 0, last + 1, -1, most}[i%6]), node, api.ErrLimit)
		}
		return false
	}
	all := (last + 1) * n.Nodes
	for _, x := range []api.Slot{{}, slot(n.Nodes-1, 0), slot(0, last), slot(n.Nodes-1, last), slot(n.Nodes/2, last/2)} {
		isSlot(t, n, last, x, x.At*n.Nodes+x.Node)
	}
	for i, far := range []int{least, least + 1, -1 << 32, -all, -1, all, all + 1, all + 2, 1 << 32, most - 1, most} {
		isSlotNo(t, n, last, slot(numbersAround(n.Nodes)[3+i%9], 0), far, api.ErrSlot)
		isSlotNo(t, n, last, slot(0, numbersAround(last + 1)[3+i%9]), far, api.ErrSlot)
	}
	return true
}

// isRefused fails unless Build, Moves and Flow answer that error and nothing else.
func isRefused(t *testing.T, x trip, want api.Errno) {
	t.Helper()
	for _, x.Hold = range []bool{true, false} {
		if n, err := Build(x.Net, x.s, x.sink, x.last); !isNothing(n) || err != want {
			t.Errorf("O3: %d nodes, %d arcs, from %d to %d within %d: %v %d, want %d", x.Nodes, len(x.Arcs), x.s, x.sink, x.last, n, err, want)
		}
		for _, f := range [][]int{nil, {}, {-1}, make([]int, 12)} {
			testMoves(t, x, f, nil, want)
		}
		for _, l := range append(wrongMoves(), nil) {
			testFlow(t, x, l, nil, want)
		}
	}
}

// testMoves fails unless Moves answers that.
func testMoves(t *testing.T, x trip, f []int, want []api.Move, wantErr api.Errno) {
	t.Helper()
	if l, err := Moves(x.Net, x.s, x.sink, x.last, f); !slices.Equal(l, want) || err != wantErr {
		t.Errorf("O4: %d nodes, %v, hold %v, from %d to %d within %d, %v: %v %d, want %v %d", x.Nodes, x.Arcs, x.Hold, x.s, x.sink, x.last, f, l, err, want, wantErr)
	}
}

// testFlow fails unless Flow answers that.
func testFlow(t *testing.T, x trip, l []api.Move, want []int, wantErr api.Errno) {
	t.Helper()
	if f, err := Flow(x.Net, x.s, x.sink, x.last, l); !slices.Equal(f, want) || err != wantErr {
		t.Errorf("O5: %d nodes, %v, hold %v, from %d to %d within %d, %v: %v %d, want %v %d", x.Nodes, x.Arcs, x.Hold, x.s, x.sink, x.last, l, f, err, want, wantErr)
	}
}

// testBuild holds Build against O3, with Hold and without, and reports whether it
// returned a network.
func testBuild(t *testing.T, x trip) bool {
	t.Helper()
	if err := errorAnew(x); err != api.OK {
		isRefused(t, x, err)
		return false
	}
	for _, x.Hold = range []bool{true, false} {
		isBuilt(t, x, arcsOf(partsAnew(x))...)
	}
	return true
}

// isBuilt fails unless those are the arcs of the expanded network.
func isBuilt(t *testing.T, x trip, want ...api.Arc) {
	t.Helper()
	n, err := Build(x.Net, x.s, x.sink, x.last)
	if n.Nodes != (x.last+1)*x.Nodes+2 || n.Hold || !slices.Equal(n.Arcs, want) || err != api.OK {
		t.Errorf("O3: %d nodes, %v, hold %v, from %d to %d within %d: %v %d, want %v", x.Nodes, x.Arcs, x.Hold, x.s, x.sink, x.last, n, err, want)
	}
}

// seen counts what has been seen of flows and of movements.
type seen struct{ flows, wrong, plans, held, refused int }

// isEnough fails unless enough of each kind has been seen.
func (k seen) isEnough(t *testing.T, enough int) {
	t.Helper()
	if min(k.flows, k.wrong, k.plans, k.held, k.refused) < enough {
		t.Errorf("only %+v", k)
	}
}

// holdMoves holds Moves against O4 for any numbers.
func (k *seen) holdMoves(t *testing.T, x trip, parts []part, f []int) {
	t.Helper()
	if !isFlowAnew(parts, f) {
		testMoves(t, x, f, nil, api.ErrFlow)
		k.wrong++
		return
	}
	testMoves(t, x, f, movesAnew(parts, f), api.OK)
	k.flows++
}

// holdFlow holds Flow against O5 for any movements, and O6.
func (k *seen) holdFlow(t *testing.T, x trip, parts []part, l []api.Move) {
	t.Helper()
	value, err := plan.Check(x.Net, x.s, x.sink, x.last, l)
	if err != api.OK {
		testFlow(t, x, l, nil, err)
		k.refused++
		return
	}
	want := flowAnew(x, parts, l)
	testFlow(t, x, l, want, api.OK)
	n := api.Net{Nodes: x.Nodes*(x.last+1) + 2, Arcs: arcsOf(parts)}
	if got, is := isBalanced(n, want); !is || got != value {
		t.Errorf("O6: %v, %v: %v has the value %d, want %d", x, l, want, got, value)
	}
	merged, err := table.Moves(l)
	if err != api.OK {
		t.Fatal(err)
	}
	testMoves(t, x, want, merged, api.OK)
	k.plans++
	if still, err := plan.Still(x.Net, x.s, x.sink, x.last, l); err == api.OK && !still {
		k.held++
	}
}

// holdBalanced holds O6 for a flow that is balanced.
func (k *seen) holdBalanced(t *testing.T, x trip, parts []part, f []int, value int) {
	t.Helper()
	k.holdMoves(t, x, parts, f)
	l, err := Moves(x.Net, x.s, x.sink, x.last, f)
	if err != api.OK {
		t.Fatalf("O4: %v, %v: %d", x, f, err)
	}
	if got, err := plan.Check(x.Net, x.s, x.sink, x.last, l); got != value || err != api.OK {
		t.Errorf("O6: %v, %v: %v has the value %d %d, want %d", x, f, l, got, err, value)
	}
	// Waiting and the ends have only what balances the others.
	testFlow(t, x, l, f, api.OK)
	k.holdFlow(t, x, parts, l)
}

// Networks, movements and flows to hold the calls against.

// someArcs returns so many arcs from 0 to itself.
func someArcs(n int) []api.Arc {
	l := make([]api.Arc, n)
	for i := range l {
		l[i] = api.Arc{Cap: i, Time: 2 * i}
	}
	return l
}

// line returns a network whose arcs lead from each node to the one after it.
func line(nodes, width, time int) api.Net {
	n := api.Net{Nodes: nodes}
	for node := 1; node < nodes; node++ {
		n.Arcs = append(n.Arcs, arc(node-1, node, width, time))
	}
	return n
}

// along returns the trip through a line, from its first node to its last one.
func along(nodes, width, time, last int) trip {
	return trip{Net: line(nodes, width, time), sink: nodes - 1, last: last}
}

// shuffled returns the items in any order.
func shuffled[T any](next func(below int) int, l []T) []T {
	out := slices.Clone(l)
	for i := range out {
		j := next(i + 1)
		out[i], out[j] = out[j], out[i]
	}
	return out
}

// pieces returns movements that are merged to those given: each in parts, one of
// which may be below 0.
func pieces(next func(below int) int, l []api.Move) []api.Move {
	var out []api.Move
	for _, x := range l {
		part := next(2*x.N+5) - 2
		out = append(out, move(x.Arc, x.At, part), move(x.Arc, x.At, x.N-part))
		if next(3) == 0 {
			out = append(out, move(x.Arc, x.At, most), move(next(300)-50, next(3000)-1500, 0), move(x.Arc, x.At, -most))
		}
	}
	return shuffled(next, out)
}

// stroll returns movements of so much from s to the sink, from any point of time
// on, or none if they are not there in time. Where they may wait, they do now and
// then.
func stroll(next func(below int) int, x trip, amount int, wait bool) []api.Move {
	node, at := x.s, next(x.last+1)/2
	var l []api.Move
	for range 4 * x.Nodes {
		var open []int
		for i, a := range x.Arcs {
			if a.From == node && a.To != x.s && at+a.Time <= x.last {
				open = append(open, i)
			}
		}
		if len(open) == 0 {
			return nil
		}
		i := open[next(len(open))]
		l = append(l, move(i, at, amount))
		if at, node = at+x.Arcs[i].Time, x.Arcs[i].To; node == x.sink {
			return l
		}
		if wait && next(3) == 0 {
			at = min(x.last, at+next(4))
		}
	}
	return nil
}

// weave returns a trip, and so many strolls through its network, each arc of which
// has a Cap for what enters it.
func weave(next func(below int) int, n api.Net, last, strolls int, wait bool) (trip, []api.Move) {
	x := trip{Net: n, s: next(n.Nodes), last: last}
	x.sink = (x.s + 1 + next(n.Nodes-1)) % n.Nodes
	var l []api.Move
	for range strolls {
		l = append(l, stroll(next, x, 1+next(5), wait)...)
	}
	merged, _ := table.Moves(l)
	x.Arcs = slices.Clone(n.Arcs)
	for i := range x.Arcs {
		x.Arcs[i].Cap = next(3)
	}
	for _, m := range merged {
		x.Arcs[m.Arc].Cap = max(x.Arcs[m.Arc].Cap, m.N)
	}
	return x, shuffled(next, l)
}

// mixed returns a network of that many nodes and arcs, which lead to any nodes, or
// to near ones.
func mixed(next func(below int) int, nodes, arcs int, times []int) api.Net {
	n := api.Net{Nodes: nodes, Hold: next(2) == 0}
	for i := range arcs {
		to := next(nodes)
		from := next(nodes)
		if i%3 == 0 {
			to = min(from+1, nodes-1)
		}
		n.Arcs = append(n.Arcs, arc(from, to, 0, times[next(len(times))]))
	}
	return n
}

// woven is a trip and movements through its network.
type woven struct {
	trip
	moves []api.Move
}

// weaves returns trips with plans, the smallest and the greatest among them.
func weaves() []woven {
	next := numbers(15)
	var out []woven
	add := func(n api.Net, last, strolls int, wait bool) {
		x, l := weave(next, n, last, strolls, wait)
		out = append(out, woven{x, l})
	}
	for _, wait := range []bool{false, true} {
		for nodes := 2; nodes <= 50; nodes += 1 + next(3) {
			for _, times := range [][]int{{0}, {1}, {0, 1, 2}, {1, 3, 7, twenty}} {
				n := mixed(next, nodes, min(200, nodes*(1+next(6))), times)
				add(n, next(25), 1+next(12), wait)
				add(n, next(8), 1+next(9), wait)
			}
		}
		for _, nodes := range []int{2, 5, 50} {
			n := mixed(next, nodes, 200, []int{0, 1, 2, 50, longest, twenty})
			add(n, 0, 30, wait)
			add(n, 1, 30, wait)
		}
		add(mixed(next, 50, 120, []int{0, 1, 2, 30}), 79, 30, wait)
		add(mixed(next, 20, 200, []int{0, 1, 2, 30}), 49, 30, wait)
		add(mixed(next, 3, 9, []int{0, 1, 2, 500}), longest, 30, wait)
		add(mixed(next, 4, 10, []int{0, 1, 2, 500}), 999, 30, wait)
	}
	return out
}

// changes returns the movements changed, each list in another way.
func changes(next func(below int) int, x woven) [][]api.Move {
	out := [][]api.Move{nil}
	for range min(len(x.moves), 2) {
		i := next(len(x.moves))
		m := x.moves[i]
		for _, y := range []api.Move{
			move(m.Arc, m.At+1, m.N), move(m.Arc, m.At-1, m.N), move(m.Arc, m.At, m.N+1), move(m.Arc, m.At, m.N-1),
			move(next(len(x.Arcs)), m.At, m.N), move(m.Arc, next(x.last+1), m.N), move(m.Arc, m.At, -m.N),
		} {
			l := slices.Clone(x.moves)
			l[i] = y
			out = append(out, l, append(l, m, move(m.Arc, m.At, -m.N)))
		}
		out = append(out, slices.Delete(slices.Clone(x.moves), i, i+1), append(slices.Clone(x.moves), m))
	}
	return out
}

// anyFlow returns numbers from 0 to the Caps of the parts.
func anyFlow(next func(below int) int, parts []part) []int {
	f := make([]int, len(parts))
	for i, p := range parts {
		switch next(4) {
		case 0:
			f[i] = p.Cap
		case 1:
			f[i] = next(p.Cap + 1)
		case 2:
			f[i] = min(p.Cap, 1)
		}
	}
	return f
}

// flowsAround returns a flow of the parts, and lists that are none.
func flowsAround(next func(below int) int, parts []part) [][]int {
	f := anyFlow(next, parts)
	out := [][]int{f, nil, {}, f[1:], f[:len(f)-1], append(slices.Clone(f), 0), append(slices.Clone(f), f...), make([]int, len(f))}
	for range 2 {
		i := next(len(f))
		for _, k := range []int{-1, parts[i].Cap, parts[i].Cap + 1, least, most} {
			g := slices.Clone(f)
			g[i] = k
			out = append(out, g)
		}
	}
	return out
}

// anyBalanced returns a flow that is balanced: any paths from the first end to the
// last one, and rounds.
func anyBalanced(next func(below int) int, parts []part, nodes, paths int) []int {
	x := streamOf(api.Net{Nodes: nodes, Arcs: arcsOf(parts)})
	for range paths {
		if next(3) > 0 {
			x.send(next, nodes-2, nodes-1, 1+next(4))
		} else {
			x.turn(next, next(len(parts)), 1+next(3))
		}
	}
	return x.flow
}

// numbersAround returns numbers of which the first three are from 0 to one less
// than the given one, and the others are not.
func numbersAround(nodes int) []int {
	return []int{0, nodes - 1, nodes / 2, -1, nodes, nodes + 1, -nodes, 4001, 1 << 32, -1 << 32, most, least}
}

// wrongMoves returns movements whose sums do not fit, or that are not valid.
func wrongMoves() [][]api.Move {
	return [][]api.Move{
		{move(0, 0, most), move(0, 0, 1)}, {move(0, 0, least), move(0, 0, -1)}, {move(-1, 0, 1)}, {move(200, 0, 1)},
		{move(0, -1, 1)}, {move(0, most, 1)}, {move(0, 0, -1)}, {move(0, 0, twenty+1)},
	}
}

// O1 to O6 for many networks.

func TestManyTrips(t *testing.T) {
	next := numbers(151)
	var k seen
	for _, x := range weaves() {
		testFits(t, x.Net, x.last)
		if !testBuild(t, x.trip) {
			continue
		}
		for _, x.Hold = range []bool{true, false} {
			parts := partsAnew(x.trip)
			for _, f := range flowsAround(next, parts) {
				k.holdMoves(t, x.trip, parts, f)
			}
			for _, l := range append(changes(next, x), x.moves, pieces(next, x.moves)) {
				k.holdFlow(t, x.trip, parts, l)
				if len(parts) > 2000 {
					break
				}
			}
			k.holdFlow(t, x.trip, parts, x.moves)
		}
	}
	k.isEnough(t, 100)
}

func TestManyHorizons(t *testing.T) {
	fit := [2]int{}
	for i, x := range weaves() {
		for _, x.last = range []int{x.last - 1, x.last / 2, x.last + 1, 2 * x.last, 10 * x.last, longest} {
			if !testFits(t, x.Net, x.last) {
				fit[0]++
				testBuild(t, x.trip)
			} else if i%8 == 0 || x.last < 5 {
				fit[1]++
				testBuild(t, x.trip)
			}
		}
	}
	if min(fit[0], fit[1]) < 50 {
		t.Errorf("only %v", fit)
	}
}

func TestManyBalancedFlows(t *testing.T) {
	next := numbers(152)
	var k seen
	valued := 0
	for _, x := range weaves() {
		if errorAnew(x.trip) != api.OK || (x.last+1)*(x.Nodes+len(x.Arcs)) > 1500 {
			continue
		}
		for _, x.Hold = range []bool{true, false} {
			parts := partsAnew(x.trip)
			nodes := x.Nodes*(x.last+1) + 2
			f := anyBalanced(next, parts, nodes, 1+next(20))
			value, is := isBalanced(api.Net{Nodes: nodes, Arcs: arcsOf(parts)}, f)
			if !is || value < 0 {
				t.Fatalf("%v: %v", x.trip, f)
			}
			k.holdBalanced(t, x.trip, parts, f, value)
			if value > 0 {
				valued++
			}
		}
	}
	if min(k.plans, valued) < 100 || k.held < 30 {
		t.Errorf("only %+v, %d with a value", k, valued)
	}
}

func TestTheGreatestFlows(t *testing.T) {
	// DOC.md's P1: the greatest value in the expanded network is what layer 12 says,
	// with Hold and without.
	next := numbers(153)
	var k seen
	valued := 0
	for range 250 {
		n := mixed(next, 2+next(6), 1+next(12), []int{0, 1, 2, 3})
		for i := range n.Arcs {
			n.Arcs[i].Cap = next(5)
		}
		x := trip{Net: n, s: next(n.Nodes), last: next(8)}
		x.sink = (x.s + 1 + next(n.Nodes-1)) % n.Nodes
		want, err := span.Most(x.Net, x.s, x.sink, x.last)
		if err != api.OK {
			t.Fatal(err)
		}
		for _, x.Hold = range []bool{true, false} {
			built, err := Build(x.Net, x.s, x.sink, x.last)
			if err != api.OK {
				t.Fatal(err)
			}
			y := streamOf(built)
			for y.send(next, built.Nodes-2, built.Nodes-1, forty) {
			}
			value, is := isBalanced(built, y.flow)
			if !is || value != want {
				t.Errorf("P1: %v: %d, want %d", x, value, want)
			}
			k.holdBalanced(t, x, partsAnew(x), y.flow, value)
			if value > 0 {
				valued++
			}
		}
	}
	if valued < 100 {
		t.Errorf("only %d with a value", valued)
	}
}

func TestSmallNets(t *testing.T) {
	var arcs []api.Arc
	for place := range 27 {
		arcs = append(arcs, arc(place%3, place/3%3, 1+place%2, place/9))
	}
	count := 0
	products(arcs, 2, func(l []api.Arc) {
		for _, ends := range [][2]int{{0, 1}, {0, 2}, {1, 0}, {1, 2}, {2, 0}, {2, 1}} {
			for last := range 3 {
				if !testBuild(t, trip{api.Net{Nodes: 3, Arcs: l}, ends[0], ends[1], last}) {
					t.Fatal("O3: an error")
				}
				count++
			}
		}
	})
	if count != 27*27*18 {
		t.Errorf("only %d", count)
	}
}

func TestAllSmallFlows(t *testing.T) {
	// Each list of numbers, balanced or not: it is balanced just where its movements
	// are a plan of its value, and it is their flow.
	var k seen
	balanced := 0
	for _, x := range []trip{
		{api.Net{Nodes: 3, Hold: true, Arcs: []api.Arc{arc(0, 1, 2, 0), arc(1, 2, 2, 0)}}, 0, 2, 1},
		{api.Net{Nodes: 3, Hold: true, Arcs: []api.Arc{arc(0, 1, 2, 0), arc(1, 2, 2, 0), arc(0, 2, 1, 0), arc(1, 1, 2, 0), arc(1, 2, 1, 0)}}, 0, 2, 0},
		{api.Net{Nodes: 4, Arcs: []api.Arc{arc(0, 1, 2, 0), arc(1, 2, 1, 0), arc(2, 1, 2, 0), arc(2, 3, 2, 0), arc(1, 3, 2, 0)}}, 0, 3, 0},
		{api.Net{Nodes: 3, Hold: true, Arcs: []api.Arc{arc(0, 1, 1, 0), arc(1, 2, 1, 1), arc(0, 2, 1, 1)}}, 0, 2, 1},
		{api.Net{Nodes: 3, Arcs: []api.Arc{arc(0, 1, 1, 1), arc(1, 2, 1, 0), arc(1, 1, 1, 0)}}, 0, 2, 1},
		{api.Net{Nodes: 3, Hold: true, Arcs: []api.Arc{arc(1, 0, 1, 1), arc(0, 1, 1, 0), arc(2, 1, 1, 0)}}, 2, 0, 1},
		{api.Net{Nodes: 2, Hold: true, Arcs: []api.Arc{arc(0, 1, 2, 0), arc(0, 1, 1, 1), arc(1, 0, 2, 0)}}, 0, 1, 1},
		{api.Net{Nodes: 3, Hold: true, Arcs: []api.Arc{arc(0, 1, 1, 0), arc(1, 2, 1, 1)}}, 0, 2, 2},
		{api.Net{Nodes: 4, Hold: true, Arcs: []api.Arc{arc(0, 1, 1, 0), arc(2, 1, 1, 0), arc(1, 2, 1, 0), arc(1, 3, 1, 1)}}, 0, 3, 1},
	} {
		parts := partsAnew(x)
		products([]int{0, 1, 2}[:2+min(1, 10/len(parts))], len(parts), func(f []int) {
			k.holdMoves(t, x, parts, f)
			if !isFlowAnew(parts, f) {
				return
			}
			value, is := isBalanced(api.Net{Nodes: x.Nodes*(x.last+1) + 2, Arcs: arcsOf(parts)}, f)
			if is {
				k.holdBalanced(t, x, parts, f, value)
				balanced++
				return
			}
			l, err := Moves(x.Net, x.s, x.sink, x.last, f)
			back, errBack := Flow(x.Net, x.s, x.sink, x.last, l)
			if err != api.OK || errBack == api.OK && slices.Equal(back, f) {
				t.Errorf("O6: %v: %v is not balanced, but %v %d is a plan with the flow %v", x, f, l, err, back)
			}
		})
	}
	if balanced < 80 || k.held < 5 {
		t.Errorf("only %+v, %d balanced", k, balanced)
	}
}

func TestAllSmallMovements(t *testing.T) {
	var k seen
	for _, n := range []api.Net{
		{Nodes: 3, Arcs: []api.Arc{arc(0, 1, 1, 0), arc(1, 2, 1, 1), arc(0, 2, 1, 0)}},
		{Nodes: 3, Arcs: []api.Arc{arc(0, 1, 1, 1), arc(1, 2, 1, 0), arc(1, 1, 1, 1)}},
		{Nodes: 3, Arcs: []api.Arc{arc(0, 1, 1, 1), arc(1, 2, 1, 0), arc(1, 0, 1, 0)}},
		{Nodes: 4, Arcs: []api.Arc{arc(1, 3, 1, 0), arc(0, 1, 1, 0), arc(0, 3, 1, 2)}},
		{Nodes: 3, Arcs: []api.Arc{arc(0, 1, 2, 1), arc(1, 2, 1, 0), arc(1, 2, 1, 1)}},
	} {
		x := trip{n, 0, n.Nodes - 1, 2}
		for _, x.Hold = range []bool{true, false} {
			parts := partsAnew(x)
			for bits := range 1 << 9 {
				var l []api.Move
				for i := range 9 {
					if bits>>i&1 == 1 {
						l = append(l, move(i%3, i/3, 1))
					}
				}
				k.holdFlow(t, x, parts, l)
				k.holdFlow(t, x, parts, append(l, move(0, 0, 1)))
			}
		}
	}
	if k.plans < 200 || k.held < 20 || k.refused < 200 {
		t.Errorf("only %+v", k)
	}
}

// Errors of the network, of the ends and of the horizon.

func TestErrorsOfCheckComeFirst(t *testing.T) {
	right := api.Arc{To: 1, Cap: 3, Time: 4}
	wrong := api.Arc{From: 2, To: 1}
	great := api.Arc{To: 1, Time: twenty + 1}
	for _, c := range []struct {
		nodes int
		arcs  []api.Arc
		want  api.Errno
	}{
		{0, nil, api.ErrNet}, {-1, nil, api.ErrNet}, {least, nil, api.ErrNet}, {0, []api.Arc{great}, api.ErrNet}, {0, someArcs(201), api.ErrNet},
		{51, nil, api.ErrLimit}, {most, nil, api.ErrLimit}, {51, []api.Arc{wrong}, api.ErrLimit},
		{1, someArcs(201), api.ErrLimit}, {50, someArcs(5000), api.ErrLimit}, {2, append([]api.Arc{wrong}, someArcs(200)...), api.ErrLimit},
		{2, []api.Arc{{From: -1}}, api.ErrNet}, {2, []api.Arc{{From: 2}}, api.ErrNet}, {2, []api.Arc{{From: least}}, api.ErrNet},
		{2, []api.Arc{{To: -1}}, api.ErrNet}, {2, []api.Arc{{To: 2}}, api.ErrNet}, {2, []api.Arc{{To: most}}, api.ErrNet},
		{2, []api.Arc{{Cap: -1}}, api.ErrNet}, {2, []api.Arc{{Time: -1}}, api.ErrNet}, {2, []api.Arc{{To: 1, Time: least}}, api.ErrNet},
		{2, []api.Arc{{Cap: twenty + 1}}, api.ErrLimit}, {2, []api.Arc{{Time: twenty + 1}}, api.ErrLimit}, {2, []api.Arc{{To: 1, Cap: most}}, api.ErrLimit},
		{2, []api.Arc{right, wrong, great}, api.ErrNet}, {2, []api.Arc{right, great, wrong}, api.ErrLimit},
		{2, append(someArcs(199), wrong), api.ErrNet}, {2, append(someArcs(199), great), api.ErrLimit},
	} {
		x := trip{Net: api.Net{Nodes: c.nodes, Arcs: c.arcs}}
		for _, x.last = range []int{0, 5, 50, -1, longest, longest + 1, most, least} {
			if testFits(t, x.Net, x.last) {
				t.Errorf("O1: %v fits", x)
			}
			for _, x.s = range numbersAround(c.nodes) {
				for _, x.sink = range []int{0, 1, c.nodes - 1, -1, x.s} {
					isRefused(t, x, c.want)
				}
			}
		}
	}
}

func TestEnds(t *testing.T) {
	good, bad := 0, 0
	for _, n := range []api.Net{{Nodes: 2}, line(2, 3, 1), {Nodes: 3, Arcs: someArcs(200)}, line(7, 2, 0), line(49, 3, 1), line(50, twenty, 0), {Nodes: 50, Arcs: someArcs(200)}} {
		x := trip{Net: n}
		for _, x.s = range numbersAround(n.Nodes) {
			for _, x.sink = range append(numbersAround(n.Nodes), x.s) {
				if x.last = 2; x.s >= 0 && x.s < n.Nodes && x.sink >= 0 && x.sink < n.Nodes && x.s != x.sink {
					if !testBuild(t, x) {
						t.Errorf("O3: %v is refused", x)
					}
					good++
					continue
				}
				// ErrEnds comes ahead of what is wrong with the horizon.
				for _, x.last = range []int{2, 0, -1, least, 1000, longest, longest + 1, most} {
					isRefused(t, x, api.ErrEnds)
				}
				bad++
			}
		}
	}
	if good < 30 || bad < 500 {
		t.Errorf("only %d ends that are right, and %d others", good, bad)
	}
}

func TestEndsOfAllSizes(t *testing.T) {
	for nodes := 1; nodes <= 50; nodes++ {
		x := trip{Net: line(nodes, 1, 1), last: 3}
		for node := -2; node <= nodes+1; node++ {
			for _, ends := range [][2]int{{node, node}, {node, -1}, {-1, node}, {nodes, node}, {node, nodes}} {
				x.s, x.sink = ends[0], ends[1]
				isRefused(t, x, api.ErrEnds)
			}
			if x.s, x.sink = node, nodes-1; node >= 0 && node < nodes-1 {
				testBuild(t, x)
				x.s, x.sink = nodes-1, node
				testBuild(t, x)
			}
		}
	}
}

func TestHorizons(t *testing.T) {
	for _, n := range []api.Net{line(3, 2, 1), {Nodes: 2}, {Nodes: 2, Arcs: someArcs(9)}, {Nodes: 50, Arcs: someArcs(200)}} {
		x := trip{Net: n, sink: 1}
		for _, x.last = range []int{-1, -2, -longest, -1 << 32, least, least + 1, least / 200, least/2 - 1} {
			isRefused(t, x, api.ErrArg)
			testFits(t, n, x.last)
		}
		// So far that plus 1, or times the nodes or the arcs, it does not fit; some of
		// these products come to 0, or to a number that would fit, if they are cut off.
		for _, x.last = range []int{longest + 1, longest + 2, 4000, 1 << 20, 1 << 32, 1<<62 - 1, 1 << 62, 1<<63 - 1, 1<<61 - 1, 1<<61 + 1, most, most - 1, most / 2, most / 3, most / 50, most / 200} {
			isRefused(t, x, api.ErrLimit)
			testFits(t, n, x.last)
		}
	}
	for _, n := range []api.Net{{Nodes: 1}, {Nodes: 2}, {Nodes: 3}, line(3, 2, 1), {Nodes: 2, Arcs: someArcs(9)}, {Nodes: 1, Arcs: someArcs(9)}} {
		for _, last := range []int{0, 1, 2, longest - 1, longest} {
			if !testFits(t, n, last) {
				t.Errorf("O1: %v does not fit %d", n, last)
			}
			if x := (trip{n, 0, n.Nodes - 1, last}); n.Nodes > 1 && !testBuild(t, x) {
				t.Errorf("O3: %v is refused", x)
			}
		}
		for _, last := range []int{-1, longest + 1} {
			if testFits(t, n, last) {
				t.Errorf("O1: %v fits %d", n, last)
			}
		}
	}
}

// lastThatFits fails unless that is the greatest horizon that a network fits, and
// it fits those before it.
func lastThatFits(t *testing.T, n api.Net, want int) {
	t.Helper()
	for _, last := range []int{0, 1, want / 2, want - 1, want} {
		if last >= 0 && last <= want && (!Fits(n, last) || !testFits(t, n, last)) {
			t.Errorf("O1: %d nodes, %d arcs do not fit %d", n.Nodes, len(n.Arcs), last)
		}
	}
	for _, last := range []int{want + 1, want + 2, 2*want + 2, longest + 1} {
		if Fits(n, last) || testFits(t, n, last) {
			t.Errorf("O1: %d nodes, %d arcs fit %d", n.Nodes, len(n.Arcs), last)
		}
		if x := (trip{n, 0, 1, last}); n.Nodes > 1 {
			isRefused(t, x, api.ErrLimit)
		}
	}
}

func TestAsManyCopiesAsMayBe(t *testing.T) {
	for nodes := 1; nodes <= 50; nodes++ {
		lastThatFits(t, api.Net{Nodes: nodes}, min(longest, 4000/nodes-1))
		lastThatFits(t, api.Net{Nodes: nodes, Arcs: someArcs(nodes)}, min(longest, 4000/nodes-1))
	}
	// They come to just 4000.
	for _, c := range [][2]int{{4, 1000}, {5, 800}, {8, 500}, {10, 400}, {16, 250}, {20, 200}, {25, 160}, {32, 125}, {40, 100}, {50, 80}} {
		n := line(c[0], 3, 1)
		lastThatFits(t, n, c[1]-1)
		x := trip{n, 0, c[0] - 1, c[1] - 1}
		testBuild(t, x)
		if built, err := Build(n, 0, 1, c[1]-1); built.Nodes != 4002 || err != api.OK {
			t.Errorf("O3: %d nodes, %d", built.Nodes, err)
		}
		isSlot(t, n, c[1]-1, slot(c[0]-1, c[1]-1), 3999)
		isSlotNo(t, n, c[1]-1, slot(c[0], c[1]-1), 4000, api.ErrSlot)
	}
}

func TestAsManyArcsAsMayBe(t *testing.T) {
	for arcs := 0; arcs <= 200; arcs++ {
		want := longest
		if arcs > 0 {
			want = min(longest, 10000/arcs-1)
		}
		lastThatFits(t, api.Net{Nodes: 2, Arcs: someArcs(arcs)}, want)
		lastThatFits(t, api.Net{Nodes: 50, Arcs: someArcs(arcs)}, min(79, want))
		lastThatFits(t, api.Net{Nodes: 1, Arcs: someArcs(arcs)}, want)
	}
	// They come to just 10000.
	for _, c := range [][2]int{{10, 1000}, {16, 625}, {20, 500}, {25, 400}, {40, 250}, {50, 200}, {80, 125}, {100, 100}, {125, 80}, {200, 50}} {
		n := api.Net{Nodes: 3, Arcs: slices.Repeat([]api.Arc{arc(0, 2, 7, 0)}, c[0])}
		lastThatFits(t, n, c[1]-1)
		x := trip{n, 0, 2, c[1] - 1}
		testBuild(t, x)
		if built, err := Build(n, 0, 2, c[1]-1); len(built.Arcs) != 10000+2*c[1] || err != api.OK {
			t.Errorf("O3: %d arcs, %d", len(built.Arcs), err)
		}
	}
	// Both at once: 4000 copies, and 10000 arcs.
	n := api.Net{Nodes: 40, Arcs: slices.Repeat([]api.Arc{arc(3, 7, 7, 0)}, 100)}
	lastThatFits(t, n, 99)
	testBuild(t, trip{n, 0, 39, 99})
}

// Index and Place.

func TestAllSlots(t *testing.T) {
	for _, n := range []api.Net{{Nodes: 1}, {Nodes: 2}, {Nodes: 3, Arcs: someArcs(50)}, {Nodes: 7}, {Nodes: 50}, {Nodes: 50, Hold: true, Arcs: someArcs(200)}} {
		for _, last := range []int{0, 1, 2, 19, 49, 79, 500, longest} {
			if !fitsAnew(n, last) {
				continue
			}
			indices := indicesAnew(n, last)
			for x, i := range indices {
				isSlot(t, n, last, x, i)
			}
			for node := -2; node <= n.Nodes+1; node++ {
				for _, at := range []int{-2, -1, 0, 1, last - 1, last, last + 1, last + 2} {
					if _, is := indices[slot(node, at)]; !is {
						isSlotNo(t, n, last, slot(node, at), len(indices), api.ErrSlot)
					}
				}
			}
			for _, i := range []int{-1, -2, len(indices), len(indices) + 1} {
				isSlotNo(t, n, last, slot(-1, -1), i, api.ErrSlot)
			}
		}
	}
}

func TestSlotsThatAreNone(t *testing.T) {
	n := line(5, 2, 1)
	for _, node := range numbersAround(5) {
		for _, at := range numbersAround(10) {
			if node >= 0 && node < 5 && at >= 0 && at < 10 {
				isSlot(t, n, 9, slot(node, at), at*5+node)
				continue
			}
			// Some of these would have an index that a slot has.
			isSlotNo(t, n, 9, slot(node, at), -1, api.ErrSlot)
		}
	}
	for _, i := range []int{50, 51, 52, 100, 1 << 32, most, -1, -5, -50, least} {
		isSlotNo(t, n, 9, slot(5, 0), i, api.ErrSlot)
		isSlotNo(t, n, 9, slot(-5, 1), i, api.ErrSlot)
		isSlotNo(t, n, 9, slot(10, -1), i, api.ErrSlot)
		isSlotNo(t, n, 9, slot(0, 10), i, api.ErrSlot)
		isSlotNo(t, n, 9, slot(-50, 10), i, api.ErrSlot)
	}
	for _, i := range []int{0, 1, 49} {
		isSlot(t, n, 9, slot(i%5, i/5), i)
	}
}

func TestSlotsNeedNoEnds(t *testing.T) {
	// A network of one node has slots, though there is nothing to expand.
	n := api.Net{Nodes: 1, Arcs: someArcs(9)}
	for at := range longest + 1 {
		isSlot(t, n, longest, slot(0, at), at)
	}
	isSlotNo(t, n, longest, slot(1, 0), longest+1, api.ErrSlot)
	isRefused(t, trip{Net: n, last: 3}, api.ErrEnds)
	isRefused(t, trip{Net: n, sink: 1, last: 3}, api.ErrEnds)
}

// The arcs of expanded networks.

func TestArcsToTheSourceAndFromTheSink(t *testing.T) {
	n := api.Net{Nodes: 3}
	for place := range 9 {
		n.Arcs = append(n.Arcs, arc(place/3, place%3, 10+place, 0))
	}
	// Those from 0 to 1 and 2, and from 1 to 1 and 2, at each of two points of time.
	free := []api.Arc{
		arc(0, 1, 11, 0), arc(0, 2, 12, 0), arc(1, 1, 14, 0), arc(1, 2, 15, 0),
		arc(3, 4, 11, 0), arc(3, 5, 12, 0), arc(4, 4, 14, 0), arc(4, 5, 15, 0),
		arc(6, 0, forty, 0), arc(6, 3, forty, 0), arc(2, 7, forty, 0), arc(5, 7, forty, 0),
	}
	isBuilt(t, trip{n, 0, 2, 1}, free...)
	n.Hold = true
	isBuilt(t, trip{n, 0, 2, 1}, slices.Insert(free, 4, arc(1, 4, forty, 0))...)
	n.Hold = false
	isBuilt(t, trip{n, 2, 1, 0}, arc(0, 0, 10, 0), arc(0, 1, 11, 0), arc(2, 0, 16, 0), arc(2, 1, 17, 0), arc(3, 2, forty, 0), arc(1, 4, forty, 0))
	n.Hold = true
	isBuilt(t, trip{n, 1, 0, 0}, arc(1, 0, 13, 0), arc(1, 2, 15, 0), arc(2, 0, 16, 0), arc(2, 2, 18, 0), arc(3, 1, forty, 0), arc(0, 4, forty, 0))
}

func TestTimes(t *testing.T) {
	for _, last := range []int{0, 1, 2, 5, 100, longest} {
		for _, time := range []int{0, 1, 2, last - 1, last, last + 1, longest, longest + 1, twenty - 1, twenty} {
			if time < 0 {
				continue
			}
			x := trip{api.Net{Nodes: 2, Arcs: []api.Arc{arc(0, 1, 3, time)}}, 0, 1, last}
			var want []api.Arc
			for at := 0; at <= last-time; at++ {
				want = append(want, arc(2*at, 2*(at+time)+1, 3, 0))
			}
			for at := range last + 1 {
				want = append(want, arc(2*last+2, 2*at, forty, 0))
			}
			for at := range last + 1 {
				want = append(want, arc(2*at+1, 2*last+3, forty, 0))
			}
			// Neither end waits.
			for _, x.Hold = range []bool{true, false} {
				isBuilt(t, x, want...)
			}
		}
	}
}

func TestArcsFromANodeToItself(t *testing.T) {
	x := trip{api.Net{Nodes: 3, Arcs: []api.Arc{arc(1, 1, 5, 0), arc(1, 1, 6, 1), arc(1, 1, 7, 2), arc(1, 1, 8, 3), arc(0, 0, 5, 1), arc(2, 2, 5, 0)}}, 0, 2, 2}
	ends := []api.Arc{arc(9, 0, forty, 0), arc(9, 3, forty, 0), arc(9, 6, forty, 0), arc(2, 10, forty, 0), arc(5, 10, forty, 0), arc(8, 10, forty, 0)}
	isBuilt(t, x, append([]api.Arc{arc(1, 1, 5, 0), arc(1, 4, 6, 0), arc(1, 7, 7, 0), arc(4, 4, 5, 0), arc(4, 7, 6, 0), arc(7, 7, 5, 0)}, ends...)...)
	x.Hold = true
	isBuilt(t, x, append([]api.Arc{arc(1, 1, 5, 0), arc(1, 4, 6, 0), arc(1, 7, 7, 0), arc(1, 4, forty, 0), arc(4, 4, 5, 0), arc(4, 7, 6, 0), arc(4, 7, forty, 0), arc(7, 7, 5, 0)}, ends...)...)
	// Movements go around, and wait beside that.
	l := []api.Move{move(1, 0, 2), move(1, 1, 1)}
	testMoves(t, x, []int{0, 2, 0, 9, 0, 1, 9, 0, 0, 0, 0, 0, 0, 0}, l, api.OK)
	testFlow(t, x, []api.Move{move(0, 1, 5)}, []int{0, 0, 0, 0, 5, 0, 0, 0, 0, 0, 0, 0, 0, 0}, api.OK)
	testFlow(t, x, l, nil, api.ErrStock)
}

func TestWaiting(t *testing.T) {
	// Who waits: all but the ends, wherever these are, at each point of time but the
	// horizon.
	for nodes := 2; nodes <= 6; nodes++ {
		for s := range nodes {
			for sink := range nodes {
				for _, last := range []int{0, 1, 2, 7} {
					x := trip{api.Net{Nodes: nodes}, s, sink, last}
					if s == sink {
						continue
					}
					var free, hold []api.Arc
					for at := range last {
						for node := range nodes {
							if node != s && node != sink {
								hold = append(hold, arc(at*nodes+node, at*nodes+node+nodes, forty, 0))
							}
						}
					}
					for at := range last + 1 {
						free = append(free, arc(nodes*(last+1), at*nodes+s, forty, 0))
					}
					for at := range last + 1 {
						free = append(free, arc(at*nodes+sink, nodes*(last+1)+1, forty, 0))
					}
					isBuilt(t, x, free...)
					x.Hold = true
					isBuilt(t, x, append(hold, free...)...)
				}
			}
		}
	}
}

func TestAHorizonOfZero(t *testing.T) {
	n := api.Net{Nodes: 4, Arcs: []api.Arc{arc(0, 1, 3, 0), arc(1, 2, 4, 1), arc(2, 3, 5, 0), arc(1, 3, 0, 0)}}
	for _, n.Hold = range []bool{true, false} {
		x := trip{n, 0, 3, 0}
		isBuilt(t, x, arc(0, 1, 3, 0), arc(2, 3, 5, 0), arc(1, 3, 0, 0), arc(4, 0, forty, 0), arc(3, 5, forty, 0))
		testFlow(t, x, nil, make([]int, 5), api.OK)
		testMoves(t, x, []int{3, 5, 0, forty, forty}, []api.Move{move(0, 0, 3), move(2, 0, 5)}, api.OK)
		x.s, x.sink = 2, 1
		isBuilt(t, x, arc(0, 1, 3, 0), arc(2, 3, 5, 0), arc(4, 2, forty, 0), arc(1, 5, forty, 0))
		x.s, x.sink = 1, 0
		isBuilt(t, x, arc(2, 3, 5, 0), arc(1, 3, 0, 0), arc(4, 1, forty, 0), arc(0, 5, forty, 0))
	}
}

func TestNoArc(t *testing.T) {
	for _, nodes := range []int{2, 3, 4, 50} {
		for _, arcs := range [][]api.Arc{nil, {}} {
			for _, hold := range []bool{true, false} {
				x := trip{api.Net{Nodes: nodes, Hold: hold, Arcs: arcs}, nodes - 1, 0, 3}
				testBuild(t, x)
				parts := partsAnew(x)
				f := make([]int, len(parts))
				testFlow(t, x, nil, f, api.OK)
				testFlow(t, x, []api.Move{}, f, api.OK)
				testFlow(t, x, []api.Move{move(0, 0, 0)}, f, api.OK)
				testFlow(t, x, []api.Move{move(0, 0, 1)}, nil, api.ErrMove)
				for i := range f {
					f[i] = forty
				}
				testMoves(t, x, f, nil, api.OK)
				testMoves(t, x, nil, nil, api.ErrFlow)
			}
		}
	}
}

func TestCaps(t *testing.T) {
	x := trip{api.Net{Nodes: 2, Arcs: []api.Arc{arc(0, 1, 0, 0), arc(0, 1, 1, 0), arc(0, 1, twenty, 0), arc(0, 1, twenty-1, 1)}}, 0, 1, 1}
	isBuilt(t, x, arc(0, 1, 0, 0), arc(0, 1, 1, 0), arc(0, 1, twenty, 0), arc(0, 3, twenty-1, 0), arc(2, 3, 0, 0), arc(2, 3, 1, 0), arc(2, 3, twenty, 0),
		arc(4, 0, forty, 0), arc(4, 2, forty, 0), arc(1, 5, forty, 0), arc(3, 5, forty, 0))
}

func TestArcsSideBySide(t *testing.T) {
	// Those that have the same ends stay apart, in their order.
	x := trip{api.Net{Nodes: 2, Arcs: []api.Arc{arc(0, 1, 3, 0), arc(0, 1, 3, 0), arc(0, 1, 2, 0)}}, 0, 1, 1}
	isBuilt(t, x, arc(0, 1, 3, 0), arc(0, 1, 3, 0), arc(0, 1, 2, 0), arc(2, 3, 3, 0), arc(2, 3, 3, 0), arc(2, 3, 2, 0),
		arc(4, 0, forty, 0), arc(4, 2, forty, 0), arc(1, 5, forty, 0), arc(3, 5, forty, 0))
	testFlow(t, x, []api.Move{move(1, 1, 3), move(2, 0, 1), move(0, 1, 2)}, []int{0, 0, 1, 2, 3, 0, 1, 5, 1, 5}, api.OK)
	testMoves(t, x, []int{0, 0, 1, 2, 3, 0, 0, 0, 0, 0}, []api.Move{move(2, 0, 1), move(0, 1, 2), move(1, 1, 3)}, api.OK)
}

func TestTheGreatestNets(t *testing.T) {
	next := numbers(154)
	var k seen
	for _, c := range []struct{ nodes, arcs, last int }{{50, 125, 79}, {50, 200, 49}, {3, 9, longest}, {40, 100, 99}, {2, 9, longest}, {10, 25, 399}} {
		n := mixed(next, c.nodes, c.arcs, []int{0, 1, 2, 5, 40})
		x, l := weave(next, n, c.last, 60, true)
		for _, x.Hold = range []bool{true, false} {
			testBuild(t, x)
			parts := partsAnew(x)
			k.holdFlow(t, x, parts, l)
			for _, f := range flowsAround(next, parts) {
				k.holdMoves(t, x, parts, f)
			}
		}
	}
	if k.plans < 6 || k.flows < 12 {
		t.Errorf("only %+v", k)
	}
}

// Moves.

func TestFlowsOfAnotherLength(t *testing.T) {
	for _, x := range []trip{along(3, 2, 1, 2), along(2, 5, 0, 0), {Net: api.Net{Nodes: 2}, sink: 1, last: 4}, along(50, 1, 1, 60)} {
		for _, x.Hold = range []bool{true, false} {
			right := len(partsAnew(x))
			for _, length := range []int{0, 1, right - 1, right + 1, 2 * right, len(x.Arcs), right} {
				for _, number := range []int{0, 1, -1} {
					f := slices.Repeat([]int{number}, length)
					if length == right && number >= 0 {
						testMoves(t, x, f, movesAnew(partsAnew(x), f), api.OK)
						continue
					}
					testMoves(t, x, f, nil, api.ErrFlow)
				}
			}
			testMoves(t, x, nil, nil, api.ErrFlow)
		}
	}
}

func TestFlowsAtTheirCaps(t *testing.T) {
	// Each arc alone, those of waiting and of the ends, too.
	counts := [4]int{}
	for _, x := range []trip{along(4, 3, 1, 4), along(3, 0, 0, 2), along(3, twenty, 1, 3), along(5, 2, twenty, 2)} {
		for _, x.Hold = range []bool{true, false} {
			parts := partsAnew(x)
			for i, p := range parts {
				for _, k := range []int{least, -forty, -1, 0, 1, p.Cap - 1, p.Cap, p.Cap + 1, twenty, twenty + 1, forty, forty + 1, most} {
					f := make([]int, len(parts))
					f[i] = k
					switch {
					case k < 0 || k > p.Cap:
						testMoves(t, x, f, nil, api.ErrFlow)
					case k > 0 && p.kind == crosses:
						testMoves(t, x, f, []api.Move{move(p.item, p.at, k)}, api.OK)
					default:
						testMoves(t, x, f, nil, api.OK)
					}
				}
				counts[p.kind]++
			}
		}
	}
	if slices.Min(counts[:]) < 8 {
		t.Errorf("only %v", counts)
	}
}

func TestMovementsNeedNoBalance(t *testing.T) {
	x := along(3, 2, 1, 2)
	x.Hold = true
	// 0 to 1 at 0 and 1, waiting at 0; 1 to 2 at 0 and 1, waiting at 1.
	testMoves(t, x, []int{1, 0, 0, 0, 0, 0, 0, 0, 0, 0, 0, 0}, []api.Move{move(0, 0, 1)}, api.OK)
	testMoves(t, x, []int{0, 2, 7, 0, 0, 0, 0, 5, 0, 0, 0, 9}, []api.Move{move(1, 0, 2)}, api.OK)
	testMoves(t, x, []int{0, 0, 7, 1, 2, forty, forty, 5, 0, 0, 0, 9}, []api.Move{move(0, 1, 1), move(1, 1, 2)}, api.OK)
	testMoves(t, x, []int{2, 1, 7, 1, 2, 0, 0, 0, 0, 0, 0, 0}, []api.Move{move(0, 0, 2), move(1, 0, 1), move(0, 1, 1), move(1, 1, 2)}, api.OK)
	testMoves(t, x, []int{0, 0, 1, 0, 0, 1, 1, 1, 1, 1, 1, 1}, nil, api.OK)
}

func TestMovementsAreInOrder(t *testing.T) {
	// All arcs of the network enter at all points of time, from many nodes: by At,
	// then by Arc, whatever their nodes are.
	next := numbers(155)
	for range 20 {
		n := mixed(next, 20, 60, []int{0, 1, 2})
		for i := range n.Arcs {
			n.Arcs[i].Cap = 5
		}
		x := trip{n, next(20), 0, 20}
		x.sink = (x.s + 7) % 20
		parts := partsAnew(x)
		f := slices.Repeat([]int{5}, len(parts))
		l, err := Moves(x.Net, x.s, x.sink, x.last, f)
		if !slices.Equal(l, movesAnew(parts, f)) || err != api.OK || len(l) < 500 {
			t.Fatalf("O4: %v: %v %d", x, l, err)
		}
		if !slices.IsSortedFunc(l, func(a, b api.Move) int { return cmp.Or(cmp.Compare(a.At, b.At), cmp.Compare(a.Arc, b.Arc)) }) {
			t.Fatalf("O4: %v", l)
		}
		for range 10 {
			testMoves(t, x, f, l, api.OK)
		}
	}
}

// Flow.

func TestMovementsThatAreRefused(t *testing.T) {
	x := along(3, 2, 1, 3)
	x.Arcs = append(x.Arcs, arc(1, 0, 2, 0), arc(2, 1, 2, 0), arc(0, 1, 2, 4))
	right := []api.Move{move(0, 0, 2), move(1, 1, 2)}
	for _, c := range []struct {
		moves []api.Move
		want  api.Errno
	}{
		{[]api.Move{move(0, 0, most), move(0, 0, 1)}, api.ErrOver}, {[]api.Move{move(9, 9, least), move(9, 9, -1)}, api.ErrOver},
		{[]api.Move{move(0, 0, most), move(5, 0, 1), move(0, 0, most)}, api.ErrOver}, {[]api.Move{move(0, 0, 2), move(-1, 0, least), move(-1, 0, least)}, api.ErrOver},
		{[]api.Move{move(5, 0, 1)}, api.ErrMove}, {[]api.Move{move(-1, 0, 1)}, api.ErrMove}, {[]api.Move{move(most, 0, 1)}, api.ErrMove}, {[]api.Move{move(least, 0, 1)}, api.ErrMove},
		{[]api.Move{move(0, -1, 1)}, api.ErrMove}, {[]api.Move{move(0, 3, 1)}, api.ErrMove}, {[]api.Move{move(0, most, 1)}, api.ErrMove}, {[]api.Move{move(0, least, 1)}, api.ErrMove},
		{[]api.Move{move(2, 1, 1)}, api.ErrMove}, {[]api.Move{move(3, 1, 1)}, api.ErrMove}, {[]api.Move{move(4, 0, 1)}, api.ErrMove},
		{[]api.Move{move(0, 0, 3)}, api.ErrMove}, {[]api.Move{move(0, 0, -3)}, api.ErrMove}, {[]api.Move{move(0, 0, 2), move(0, 0, 1)}, api.ErrMove},
		{[]api.Move{move(0, 0, 1)}, api.ErrStock}, {[]api.Move{move(1, 0, 1)}, api.ErrStock}, {[]api.Move{move(0, 1, 1), move(1, 1, 1)}, api.ErrStock},
		{[]api.Move{move(0, 0, 2), move(1, 1, 1)}, api.ErrStock}, {[]api.Move{move(0, 0, 1), move(1, 1, 2)}, api.ErrStock},
	} {
		for _, x.Hold = range []bool{true, false} {
			testFlow(t, x, c.moves, nil, c.want)
			if c.want != api.ErrStock {
				testFlow(t, x, slices.Concat(c.moves, right), nil, c.want)
				testFlow(t, x, slices.Concat(right, c.moves), nil, c.want)
			}
		}
	}
	// A stock that is a plan's only with Hold.
	held := []api.Move{move(0, 0, 2), move(1, 2, 2)}
	testFlow(t, x, held, nil, api.ErrStock)
	x.Hold = true
	testFlow(t, x, held, []int{2, 0, 0, 0, 0, 2, 0, 2, 0, 2, 0, 0, 0, 0, 0, 0, 2}, api.OK)
	x.Hold = false
	testFlow(t, x, right, []int{2, 0, 0, 2, 0, 0, 2, 0, 0, 0, 0, 0, 2, 0}, api.OK)
}

func TestMovementsInPieces(t *testing.T) {
	x := along(3, 4, 1, 3)
	// 0 to 1 and 1 to 2 at 0, 1 and 2; the first end; the last end.
	want := []int{3, 0, 1, 3, 0, 1, 3, 1, 0, 0, 0, 0, 3, 1}
	for _, l := range [][]api.Move{
		{move(0, 0, 3), move(0, 1, 1), move(1, 1, 3), move(1, 2, 1)},
		{move(1, 2, 1), move(1, 1, 3), move(0, 1, 1), move(0, 0, 3)},
		{move(0, 0, 1), move(0, 1, 1), move(1, 1, 5), move(1, 2, 1), move(0, 0, 2), move(1, 1, -2)},
		{move(0, 0, most), move(0, 1, 1), move(1, 1, 3), move(1, 2, 1), move(0, 0, 3), move(0, 0, -most)},
		{move(0, 0, 3), move(0, 1, 1), move(1, 1, 3), move(1, 2, 1), move(9, 9, 0), move(-1, least, 5), move(-1, least, -5), move(0, 2, 0)},
	} {
		testFlow(t, x, l, want, api.OK)
		testMoves(t, x, want, []api.Move{move(0, 0, 3), move(0, 1, 1), move(1, 1, 3), move(1, 2, 1)}, api.OK)
	}
}

func TestWaitingHasTheStock(t *testing.T) {
	x := along(3, 5, 1, 4)
	x.Hold = true
	l := []api.Move{move(0, 0, 5), move(0, 1, 4), move(1, 1, 2), move(1, 2, 1), move(1, 3, 5)}
	// 5 come at 1, of which 2 go on; 4 come at 2, and 1 goes on; at 3 there are 6, of
	// which only 5 may leave.
	testFlow(t, x, l, nil, api.ErrStock)
	l[2].N = 3
	// At each point of time but the last one: 0 to 1, 1 to 2, waiting at 1; then the
	// first end, and the last one.
	testFlow(t, x, l, []int{5, 0, 0, 4, 3, 2, 0, 1, 5, 0, 5, 0, 5, 4, 0, 0, 0, 0, 0, 3, 1, 5}, api.OK)
}

func TestTheEndsAtEachPointOfTime(t *testing.T) {
	// Two arcs leave the source and three lead to the sink, of one to five.
	x := trip{api.Net{Nodes: 4, Arcs: []api.Arc{arc(2, 1, 9, 0), arc(2, 3, 9, 1), arc(1, 0, 9, 2), arc(3, 0, 9, 0), arc(2, 0, 9, 1)}}, 2, 0, 2}
	l := []api.Move{move(0, 0, 1), move(2, 0, 1), move(1, 0, 2), move(3, 1, 2), move(4, 0, 4), move(1, 1, 5), move(3, 2, 5), move(4, 1, 7)}
	for _, x.Hold = range []bool{true, false} {
		f, err := Flow(x.Net, x.s, x.sink, x.last, l)
		if err != api.OK || len(f) < 6 || !slices.Equal(f[len(f)-6:], []int{7, 12, 0, 0, 6, 13}) {
			t.Errorf("O5: %v %d", f, err)
		}
		new(seen).holdFlow(t, x, partsAnew(x), l)
	}
}

func TestNoMovement(t *testing.T) {
	for _, x := range []trip{along(3, 2, 1, 2), along(2, 5, 0, 0), along(50, 1, 1, 60), along(3, 1, 1, longest)} {
		for _, x.Hold = range []bool{true, false} {
			f := make([]int, len(partsAnew(x)))
			for _, l := range [][]api.Move{nil, {}, {move(0, 0, 0)}, {move(most, least, 0)}, {move(0, 0, 5), move(0, 0, -5)}} {
				testFlow(t, x, l, f, api.OK)
			}
			testMoves(t, x, f, nil, api.OK)
		}
	}
}

func TestTheGreatestPlan(t *testing.T) {
	// 200 arcs at 50 points of time: half of them lead to where all waits as long as
	// it may.
	x := trip{Net: api.Net{Nodes: 3, Hold: true, Arcs: append(slices.Repeat([]api.Arc{arc(0, 1, twenty, 0)}, 100), slices.Repeat([]api.Arc{arc(1, 2, twenty, 0)}, 100)...)}, sink: 2, last: 49}
	var l []api.Move
	for at := range 25 {
		for place := range 100 {
			l = append(l, move(place, at, twenty), move(199-place, 49-at, twenty))
		}
	}
	f, err := Flow(x.Net, x.s, x.sink, x.last, l)
	if err != api.OK || len(f) != 10000+49+100 || slices.Max(f) != 25*100*twenty {
		t.Fatalf("O5: %d numbers, %d", len(f), err)
	}
	// 201 arcs stand at each point of time but the last.
	stock := 0
	for at := range 49 {
		if at < 25 {
			stock += 100 * twenty
		} else {
			stock -= 100 * twenty
		}
		if f[at*201+200] != stock {
			t.Errorf("O5: %d wait at %d, want %d", f[at*201+200], at, stock)
		}
	}
	merged, _ := table.Moves(l)
	testMoves(t, x, f, merged, api.OK)
}

// R3, R4.

func TestArgumentsStay(t *testing.T) {
	next := numbers(156)
	wrong := []trip{{}, {Net: api.Net{Nodes: 51, Arcs: someArcs(3)}}, {Net: api.Net{Nodes: 2, Arcs: []api.Arc{{To: 1}, {To: 2}, {Cap: twenty + 1}}}, sink: 1}}
	all := weaves()[:120]
	for _, x := range wrong {
		all = append(all, woven{x, []api.Move{move(0, 0, 1)}})
	}
	for _, x := range all {
		f := []int{1, 2, 3}
		if errorAnew(x.trip) == api.OK {
			f = anyFlow(next, partsAnew(x.trip))
		}
		arcs, moves, flow := slices.Clone(x.Arcs), slices.Clone(x.moves), slices.Clone(f)
		// One more than what is given, and all that is given.
		for _, less := range []int{0, 1} {
			n := x.Net
			n.Arcs = x.Arcs[:max(0, len(x.Arcs)-less)]
			Fits(n, x.last)
			Index(n, x.last, slot(0, 0))
			Place(n, x.last, 0)
			Build(n, x.s, x.sink, x.last)
			Moves(n, x.s, x.sink, x.last, f)
			Moves(n, x.s, x.sink, x.last, f[:len(f)-less])
			Flow(n, x.s, x.sink, x.last, x.moves)
			Flow(n, x.s, x.sink, x.last, x.moves[:max(0, len(x.moves)-less)])
		}
		if !slices.Equal(x.Arcs, arcs) || !slices.Equal(x.moves, moves) || !slices.Equal(f, flow) {
			t.Fatalf("R3: %v, %v, %v became %v, %v, %v", arcs, moves, flow, x.Arcs, x.moves, f)
		}
	}
}

func TestResultsAreApart(t *testing.T) {
	x := along(3, 4, 1, 3)
	x.Hold = true
	l := []api.Move{move(0, 0, 3), move(1, 1, 2), move(1, 2, 1)}
	want := flowAnew(x, partsAnew(x), l)
	for range 3 {
		isBuilt(t, x, arcsOf(partsAnew(x))...)
		n, _ := Build(x.Net, x.s, x.sink, x.last)
		for i := range n.Arcs[:cap(n.Arcs)] {
			n.Arcs[:cap(n.Arcs)][i] = arc(77, 77, 77, 77)
		}
		testFlow(t, x, l, want, api.OK)
		testMoves(t, x, want, l, api.OK)
		f, _ := Flow(x.Net, x.s, x.sink, x.last, l)
		m, _ := Moves(x.Net, x.s, x.sink, x.last, f)
		for i := range f[:cap(f)] {
			f[:cap(f)][i] = 77
		}
		if !slices.Equal(m, l) {
			t.Errorf("R3: a change of the flow made the movements %v", m)
		}
		for i := range m[:cap(m)] {
			m[:cap(m)][i] = move(77, 77, 77)
		}
	}
	if !slices.Equal(x.Arcs, line(3, 4, 1).Arcs) || l[0] != move(0, 0, 3) {
		t.Errorf("R3: %v %v", x.Arcs, l)
	}
}

func TestEarlierCallsMakeNoDifference(t *testing.T) {
	next := numbers(157)
	for _, x := range weaves()[:60] {
		if errorAnew(x.trip) != api.OK {
			continue
		}
		f := anyFlow(next, partsAnew(x.trip))
		n, err := Build(x.Net, x.s, x.sink, x.last)
		moves, errMoves := Moves(x.Net, x.s, x.sink, x.last, f)
		flow, errFlow := Flow(x.Net, x.s, x.sink, x.last, x.moves)
		isRefused(t, trip{Net: api.Net{Nodes: 51}}, api.ErrLimit)
		isSlotNo(t, x.Net, x.last, slot(-1, 0), -1, api.ErrSlot)
		testBuild(t, along(5, 3, 0, 2))
		nAgain, errAgain := Build(x.Net, x.s, x.sink, x.last)
		movesAgain, errMovesAgain := Moves(x.Net, x.s, x.sink, x.last, f)
		flowAgain, errFlowAgain := Flow(x.Net, x.s, x.sink, x.last, x.moves)
		if !reflect.DeepEqual(n, nAgain) || err != errAgain || !reflect.DeepEqual(moves, movesAgain) || errMoves != errMovesAgain || !reflect.DeepEqual(flow, flowAgain) || errFlow != errFlowAgain {
			t.Errorf("R4: %v", x)
		}
	}
}

// Ways: each slot finds its arcs.

func TestSlotsFindTheirArcs(t *testing.T) {
	for _, x := range weaves() {
		if errorAnew(x.trip) != api.OK {
			continue
		}
		g, err := grow(x.Net, x.s, x.sink, x.last)
		if err != api.OK {
			t.Fatalf("O3: %v: %d", x.trip, err)
		}
		crossings := 0
		for at, l := range g.crossings {
			for _, c := range l {
				a := x.Arcs[c.arc]
				if got := g.expanded.Arcs[c.place]; a.From != at.Node || got.From != at.At*x.Nodes+a.From || got.To != (at.At+a.Time)*x.Nodes+a.To {
					t.Fatalf("O3: %v: %v at %v is %v", x.trip, a, at, got)
				}
				crossings++
			}
		}
		for at, place := range g.waits {
			if got := g.expanded.Arcs[place]; got.From != at.At*x.Nodes+at.Node || got.To != got.From+x.Nodes {
				t.Fatalf("O3: %v: waiting at %v is %v", x.trip, at, got)
			}
		}
		if all := crossings + len(g.waits) + 2*(x.last+1); all != len(g.expanded.Arcs) || len(g.entries) != x.last+1 || len(g.exits) != x.last+1 {
			t.Fatalf("O3: %v: %d of %d arcs", x.trip, all, len(g.expanded.Arcs))
		}
	}
}

func TestExamples(t *testing.T) {
	x := along(3, 2, 1, 2)
	ends := []api.Arc{arc(9, 0, forty, 0), arc(9, 3, forty, 0), arc(9, 6, forty, 0), arc(2, 10, forty, 0), arc(5, 10, forty, 0), arc(8, 10, forty, 0)}
	isBuilt(t, x, append([]api.Arc{arc(0, 4, 2, 0), arc(1, 5, 2, 0), arc(3, 7, 2, 0), arc(4, 8, 2, 0)}, ends...)...)
	testFlow(t, x, []api.Move{move(0, 0, 2), move(1, 1, 2)}, []int{2, 0, 0, 2, 2, 0, 0, 0, 0, 2}, api.OK)
	x.Hold = true
	isBuilt(t, x, append([]api.Arc{arc(0, 4, 2, 0), arc(1, 5, 2, 0), arc(1, 4, forty, 0), arc(3, 7, 2, 0), arc(4, 8, 2, 0), arc(4, 7, forty, 0)}, ends...)...)
	testFlow(t, x, []api.Move{move(0, 0, 2), move(1, 1, 2)}, []int{2, 0, 0, 0, 2, 0, 2, 0, 0, 0, 0, 2}, api.OK)
	testMoves(t, x, []int{2, 0, 0, 0, 2, 0, 2, 0, 0, 0, 0, 2}, []api.Move{move(0, 0, 2), move(1, 1, 2)}, api.OK)
	// DOC.md's: what leaves at 0, 1, 2 and 3 is 8 within 5.
	x.last, x.Hold = 5, false
	var l []api.Move
	for at := range 4 {
		l = append(l, move(0, at, 2), move(1, at+1, 2))
	}
	testFlow(t, x, l, []int{2, 0, 2, 2, 2, 2, 2, 2, 0, 2, 2, 2, 2, 2, 0, 0, 0, 0, 2, 2, 2, 2}, api.OK)
}
