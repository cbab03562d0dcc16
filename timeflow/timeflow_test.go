package timeflow

import (
	"math"
	"math/big"
	"reflect"
	"slices"
	"testing"

	"ebbtide/api"
	"ebbtide/expand"
	"ebbtide/mincut"
	"ebbtide/netfmt"
	"ebbtide/plan"
	"ebbtide/span"
	"ebbtide/table"
)

const (
	most  = math.MaxInt64
	least = math.MinInt64
	// twenty is what an arc's Cap and Time may be at most.
	twenty = 1048576
	// forty is the Cap of the arcs of waiting and of the ends.
	forty = 1099511627776
	// longest is the greatest horizon.
	longest = 1024
)

// numbers returns a function that returns one number after the other, the same
// ones in each run.
func numbers(seed uint64) func(below int) int {
	return func(below int) int {
		seed = seed*6364136223846793005 + 1442695040888963407
		return int(seed>>33) % below
	}
}

// arc returns an arc.
func arc(from, to, width, time int) api.Arc {
	return api.Arc{From: from, To: to, Cap: width, Time: time}
}

// move returns a movement of so much.
func move(place, at, amount int) api.Move {
	return api.Move{Arc: place, At: at, N: amount}
}

// slot returns a slot.
func slot(node, at int) api.Slot {
	return api.Slot{Node: node, At: at}
}

// trip is a network, its ends and a horizon.
type trip struct {
	api.Net
	s, sink, last int
}

// The plain ways of working out what the chapter asks for, each by another method
// than the package's.

// wideAnew returns the arcs of the expanded network in any order; the first end
// comes after the slots, and the last end after it.
func wideAnew(x trip) []api.Arc {
	first := x.Nodes * (x.last + 1)
	var arcs []api.Arc
	for at := range x.last + 1 {
		for node := range x.Nodes {
			here := at*x.Nodes + node
			switch {
			case node == x.s:
				arcs = append(arcs, arc(first, here, forty, 0))
			case node == x.sink:
				arcs = append(arcs, arc(here, first+1, forty, 0))
			case x.Hold && at < x.last:
				arcs = append(arcs, arc(here, here+x.Nodes, forty, 0))
			}
		}
		for _, a := range x.Arcs {
			if a.To != x.s && a.From != x.sink && at+a.Time <= x.last {
				arcs = append(arcs, arc(at*x.Nodes+a.From, (at+a.Time)*x.Nodes+a.To, a.Cap, 0))
			}
		}
	}
	return arcs
}

// fitsAnew reports whether a network fits a horizon.
func fitsAnew(n api.Net, last int) bool {
	points := new(big.Int).Add(big.NewInt(int64(last)), big.NewInt(1))
	copies := new(big.Int).Mul(points, big.NewInt(int64(n.Nodes)))
	moves := new(big.Int).Mul(points, big.NewInt(int64(len(n.Arcs))))
	return copies.Cmp(big.NewInt(4000)) <= 0 && moves.Cmp(big.NewInt(10000)) <= 0
}

// errorAnew returns the error of the three calls.
func errorAnew(x trip) api.Errno {
	switch {
	case netfmt.Check(x.Net) != api.OK:
		return netfmt.Check(x.Net)
	case x.s < 0 || x.sink < 0 || x.s >= x.Nodes || x.sink >= x.Nodes || x.s == x.sink:
		return api.ErrEnds
	case x.last < 0:
		return api.ErrArg
	case x.last > longest || !fitsAnew(x.Net, x.last):
		return api.ErrLimit
	}
	return api.OK
}

// stream is the expanded network with a flow that is being increased.
type stream struct {
	arcs        []api.Arc
	at          [][]int // the indices of the arcs that begin or end at each node
	flow        []int
	first, last int
}

// streamOf returns the expanded network with the flow of zeros.
func streamOf(x trip) *stream {
	first := x.Nodes * (x.last + 1)
	y := &stream{arcs: wideAnew(x), at: make([][]int, first+2), first: first, last: first + 1}
	y.flow = make([]int, len(y.arcs))
	for i, a := range y.arcs {
		y.at[a.From] = append(y.at[a.From], i)
		y.at[a.To] = append(y.at[a.To], i)
	}
	return y
}

// steps returns where the steps with room lead from a node, and by which arcs.
func (y *stream) steps(node int) (ends, arcs []int) {
	for _, i := range y.at[node] {
		a := y.arcs[i]
		if a.From == node && y.flow[i] < a.Cap {
			ends, arcs = append(ends, a.To), append(arcs, i)
		}
		if a.To == node && y.flow[i] > 0 {
			ends, arcs = append(ends, a.From), append(arcs, i)
		}
	}
	return ends, arcs
}

// search returns all nodes that are reached from the first end, each with the arc by
// which it was, in any order.
func (y *stream) search(next func(below int) int) map[int]int {
	came := map[int]int{y.first: -1}
	open := []int{y.first}
	for len(open) > 0 {
		i := next(len(open))
		node := open[i]
		open = slices.Delete(open, i, i+1)
		ends, arcs := y.steps(node)
		for j, end := range ends {
			if _, known := came[end]; !known {
				came[end] = arcs[j]
				open = append(open, end)
			}
		}
	}
	return came
}

// along returns the arcs of the path by which a node was come to, and for each one
// whether it is gone back.
func (y *stream) along(came map[int]int, node int) (arcs []int, back []bool) {
	for node != y.first {
		i := came[node]
		isBack := y.arcs[i].To != node
		arcs, back = append(arcs, i), append(back, isBack)
		if node = y.arcs[i].From; isBack {
			node = y.arcs[i].To
		}
	}
	return arcs, back
}

// send increases the flow along a path to the last end by as much as there is room
// for, or by 1, and returns by how much.
func (y *stream) send(next func(below int) int, came map[int]int) int {
	arcs, back := y.along(came, y.last)
	amount := most
	for j, i := range arcs {
		if back[j] {
			amount = min(amount, y.flow[i])
		} else {
			amount = min(amount, y.arcs[i].Cap-y.flow[i])
		}
	}
	if amount < 100 && next(3) == 0 {
		amount = 1
	}
	for j, i := range arcs {
		if back[j] {
			y.flow[i] -= amount
		} else {
			y.flow[i] += amount
		}
	}
	return amount
}

// solveAnew returns the greatest value of a flow, and what is reached from the first
// end for a flow with it. The paths are any ones.
func solveAnew(next func(below int) int, x trip) (value int, side []bool) {
	y := streamOf(x)
	for {
		came := y.search(next)
		if _, is := came[y.last]; !is {
			side = make([]bool, y.first)
			for node := range side {
				_, side[node] = came[node]
			}
			return value, side
		}
		value += y.send(next, came)
	}
}

// reachedBy returns for each slot whether it is reached from the first end, for the
// flow of a plan, and how many of the others do not lead to the last end either.
func reachedBy(t *testing.T, x trip, l []api.Move) (side []bool, between int) {
	t.Helper()
	n, err := expand.Build(x.Net, x.s, x.sink, x.last)
	f, errFlow := expand.Flow(x.Net, x.s, x.sink, x.last, l)
	if err != api.OK || errFlow != api.OK {
		t.Fatalf("%v, %v: %d %d", x, l, err, errFlow)
	}
	from, to := spread(n, f, n.Nodes-2, false), spread(n, f, n.Nodes-1, true)
	if from[n.Nodes-1] || to[n.Nodes-2] {
		t.Errorf("P4: %v: more can come than in %v", x, l)
	}
	for node := range n.Nodes - 2 {
		if !from[node] && !to[node] {
			between++
		}
	}
	return from[:n.Nodes-2], between
}

// spread returns for each node whether there is a path with room to it, or else from
// it.
func spread(n api.Net, f []int, node int, backward bool) []bool {
	next := make([][]int, n.Nodes)
	link := func(from, to int) {
		if backward {
			from, to = to, from
		}
		next[from] = append(next[from], to)
	}
	for i, a := range n.Arcs {
		if f[i] < a.Cap {
			link(a.From, a.To)
		}
		if f[i] > 0 {
			link(a.To, a.From)
		}
	}
	is := make([]bool, n.Nodes)
	is[node] = true
	for open := []int{node}; len(open) > 0; {
		node, open = open[len(open)-1], open[:len(open)-1]
		for _, end := range next[node] {
			if !is[end] {
				is[end] = true
				open = append(open, end)
			}
		}
	}
	return is
}

// slotsOf returns the slots of a side, in the order of their indices.
func slotsOf(x trip, side []bool) []api.Slot {
	var l []api.Slot
	for at := range x.last + 1 {
		for node := range x.Nodes {
			if side[at*x.Nodes+node] {
				l = append(l, slot(node, at))
			}
		}
	}
	return l
}

// capacityOf returns how much the arcs of the expanded network take that leave the
// slots of a cut, or begin at the first end and do not lead to them.
func capacityOf(x trip, cut []api.Slot) int {
	side := map[int]bool{x.Nodes * (x.last + 1): true}
	for _, y := range cut {
		side[y.At*x.Nodes+y.Node] = true
	}
	sum := 0
	for _, a := range wideAnew(x) {
		if side[a.From] && !side[a.To] {
			sum += a.Cap
		}
	}
	return sum
}

// allSides returns the least capacity of all the sides that contain the first end
// and not the last one, what all that have it contain, and how many they are.
func allSides(x trip) (capacity int, cut []api.Slot, count int) {
	arcs := wideAnew(x)
	all := x.Nodes * (x.last + 1)
	capacity = most
	inside := 0
	for set := range 1 << all {
		side := set | 1<<all
		sum := 0
		for _, a := range arcs {
			if side>>a.From&1 == 1 && side>>a.To&1 == 0 {
				sum += a.Cap
			}
		}
		if sum < capacity {
			capacity, inside, count = sum, side, 0
		}
		if sum == capacity {
			inside &= side
			count++
		}
	}
	for i := range all {
		if inside>>i&1 == 1 {
			cut = append(cut, slot(i%x.Nodes, i/x.Nodes))
		}
	}
	return capacity, cut, count
}

// allPlans returns the greatest value of all the plans, and how many they are.
func allPlans(t *testing.T, x trip) (value, count int) {
	t.Helper()
	var l []api.Move
	var try func(place int)
	try = func(place int) {
		if place == len(x.Arcs)*(x.last+1) {
			if k, err := plan.Check(x.Net, x.s, x.sink, x.last, l); err == api.OK {
				value = max(value, k)
				count++
			}
			return
		}
		i, at := place%len(x.Arcs), place/len(x.Arcs)
		for amount := range x.Arcs[i].Cap + 1 {
			l = append(l, move(i, at, amount))
			try(place + 1)
			l = l[:len(l)-1]
			if a := x.Arcs[i]; a.To == x.s || a.From == x.sink || at+a.Time > x.last {
				break
			}
		}
	}
	try(0)
	return value, count
}

// products calls do with each list that has so many of the items.
func products[T any](items []T, length int, do func(l []T)) {
	l := make([]T, length)
	var fill func(place int)
	fill = func(place int) {
		if place == length {
			do(l)
			return
		}
		for _, x := range items {
			l[place] = x
			fill(place + 1)
		}
	}
	fill(0)
}

// What fails unless the calls answer as the chapter asks.

// isRefused fails unless the three calls answer that error and nothing else.
func isRefused(t *testing.T, x trip, want api.Errno) {
	t.Helper()
	for _, x.Hold = range []bool{true, false} {
		if k, err := Most(x.Net, x.s, x.sink, x.last); k != 0 || err != want {
			t.Errorf("P1: %d nodes, %d arcs, from %d to %d within %d: %d %d, want %d", x.Nodes, len(x.Arcs), x.s, x.sink, x.last, k, err, want)
		}
		if l, k, err := Max(x.Net, x.s, x.sink, x.last); len(l) != 0 || k != 0 || err != want {
			t.Errorf("P2: %d nodes, %d arcs, from %d to %d within %d: %v %d %d, want %d", x.Nodes, len(x.Arcs), x.s, x.sink, x.last, l, k, err, want)
		}
		if c, err := Cut(x.Net, x.s, x.sink, x.last); len(c) != 0 || err != want {
			t.Errorf("P3: %d nodes, %d arcs, from %d to %d within %d: %v %d, want %d", x.Nodes, len(x.Arcs), x.s, x.sink, x.last, c, err, want)
		}
	}
}

// isMost fails unless Most answers that.
func isMost(t *testing.T, x trip, want int) {
	t.Helper()
	if k, err := Most(x.Net, x.s, x.sink, x.last); k != want || err != api.OK {
		t.Errorf("P1: %v: %d %d, want %d", x, k, err, want)
	}
}

// isMax fails unless Max answers that, with a plan that is merged.
func isMax(t *testing.T, x trip, want int) []api.Move {
	t.Helper()
	l, k, err := Max(x.Net, x.s, x.sink, x.last)
	if k != want || err != api.OK {
		t.Errorf("P2: %v: %d %d, want %d", x, k, err, want)
	}
	if got, err := plan.Check(x.Net, x.s, x.sink, x.last, l); got != want || err != api.OK {
		t.Errorf("P2: %v: %v has the value %d %d, want %d", x, l, got, err, want)
	}
	if merged, err := table.Moves(l); !slices.Equal(l, merged) || err != api.OK {
		t.Errorf("P2: %v: %v is not merged", x, l)
	}
	if want == 0 && len(l) > 0 {
		t.Errorf("P2: %v: %v brings nothing", x, l)
	}
	return l
}

// isCut fails unless Cut answers those slots.
func isCut(t *testing.T, x trip, want ...api.Slot) {
	t.Helper()
	if c, err := Cut(x.Net, x.s, x.sink, x.last); !slices.Equal(c, want) || err != api.OK {
		t.Errorf("P3: %v: %v %d, want %v", x, c, err, want)
	}
}

// isBoth fails unless the value is that, with Hold and without.
func isBoth(t *testing.T, x trip, want int) {
	t.Helper()
	for _, x.Hold = range []bool{true, false} {
		isMost(t, x, want)
		isMax(t, x, want)
		hold(t, x)
	}
}

// seen counts what has been seen of trips.
type seen struct{ refused, none, some, wider, several int }

// isEnough fails unless enough of each kind that is not refused has been seen.
func (k seen) isEnough(t *testing.T, enough int) {
	t.Helper()
	if min(k.none, k.some, k.wider, k.several) < enough {
		t.Errorf("only %+v", k)
	}
}

// hold holds the calls for a trip that is right against each other: a plan and a cut
// of the same value show that neither can be better. It returns the value and how
// many slots are in no cut that is smallest, for either end.
func hold(t *testing.T, x trip) (value, between int) {
	t.Helper()
	value, err := Most(x.Net, x.s, x.sink, x.last)
	if err != api.OK {
		t.Fatalf("P1: %v: %d", x, err)
	}
	l := isMax(t, x, value)
	side, between := reachedBy(t, x, l)
	cut := slotsOf(x, side)
	isCut(t, x, cut...)
	if got := capacityOf(x, cut); got != value {
		t.Errorf("P3: %v: the capacity of %v is %d, want %d", x, cut, got, value)
	}
	if got, err := span.Most(x.Net, x.s, x.sink, x.last); got != value || err != api.OK {
		t.Errorf("DOC's P1: %v: %d, but %d by layer 12", x, value, got)
	}
	return value, between
}

// holdAny holds the calls for any trip, with Hold and without.
func (k *seen) holdAny(t *testing.T, x trip) {
	t.Helper()
	if err := errorAnew(x); err != api.OK {
		isRefused(t, x, err)
		k.refused++
		return
	}
	x.Hold = false
	without, _ := hold(t, x)
	x.Hold = true
	value, between := hold(t, x)
	if value != without {
		t.Errorf("P4: %v: %d with Hold, %d without", x, value, without)
	}
	if cut, _ := Cut(x.Net, x.s, x.sink, x.last); len(cut) > x.last+1 {
		k.wider++
	}
	if between > 0 {
		k.several++
	}
	if value == 0 {
		k.none++
	} else {
		k.some++
	}
}

// holdAnew holds the calls for a trip that is right against another way of working
// out the value and the cut.
func holdAnew(t *testing.T, next func(below int) int, x trip) {
	t.Helper()
	for _, x.Hold = range []bool{true, false} {
		value, side := solveAnew(next, x)
		isMost(t, x, value)
		isMax(t, x, value)
		isCut(t, x, slotsOf(x, side)...)
	}
}

// Networks to hold the calls against.

// someArcs returns so many arcs from 0 to itself.
func someArcs(n int) []api.Arc {
	l := make([]api.Arc, n)
	for i := range l {
		l[i] = api.Arc{Cap: i, Time: 2 * i}
	}
	return l
}

// line returns a network whose arcs lead from each node to the one after it.
func line(nodes, width, time int) api.Net {
	n := api.Net{Nodes: nodes}
	for node := 1; node < nodes; node++ {
		n.Arcs = append(n.Arcs, arc(node-1, node, width, time))
	}
	return n
}

// along returns the trip through a line, from its first node to its last one.
func along(nodes, width, time, last int) trip {
	return trip{Net: line(nodes, width, time), sink: nodes - 1, last: last}
}

// from returns the trip from the first node to the last one.
func from(nodes, last int, arcs ...api.Arc) trip {
	return trip{api.Net{Nodes: nodes, Arcs: arcs}, 0, nodes - 1, last}
}

// mixed returns a network of that many nodes and arcs, which lead to any nodes, or
// to near ones, with Caps below width.
func mixed(next func(below int) int, nodes, arcs, width int, times []int) api.Net {
	n := api.Net{Nodes: nodes, Hold: next(2) == 0}
	for i := range arcs {
		to := next(nodes)
		from := next(nodes)
		if i%3 == 0 {
			to = min(from+1, nodes-1)
		}
		n.Arcs = append(n.Arcs, arc(from, to, next(width), times[next(len(times))]))
	}
	return n
}

// anyTrip returns a trip through a network, between any ends.
func anyTrip(next func(below int) int, n api.Net, last int) trip {
	x := trip{Net: n, s: next(n.Nodes), last: last}
	x.sink = (x.s + 1 + next(n.Nodes-1)) % n.Nodes
	return x
}

// mixes returns trips, the smallest and the greatest among them.
func mixes() []trip {
	next := numbers(16)
	var out []trip
	widths := []int{2, 3, 10, 1000, twenty + 1}
	add := func(nodes, arcs, last int, times ...int) {
		n := mixed(next, nodes, arcs, widths[len(out)%len(widths)], times)
		out = append(out, anyTrip(next, n, last))
	}
	for nodes := 2; nodes <= 50; nodes += 1 + next(3) {
		for _, times := range [][]int{{0}, {1}, {0, 1, 2}, {1, 3, 7, twenty}} {
			for range 3 {
				add(nodes, min(200, nodes*(1+next(6))), next(25), times...)
				add(nodes, min(200, nodes*(1+next(3))), next(8), times...)
			}
		}
	}
	for range 4 {
		add(50, 200, 0, 0, 0, 0, 1)
		add(50, 200, 1, 0, 0, 1, 2)
		add(50, 120, 79, 0, 1, 2, 30)
		add(20, 200, 49, 0, 1, 2, 30)
		add(3, 9, longest, 0, 1, 2, 500)
		add(4, 10, 999, 0, 1, 2, 500)
		add(5, 12, 799, 0, 1, 2, 500)
		add(40, 100, 99, 0, 1, 2, 50)
		add(10, 25, 399, 1, 2, 200)
		add(10, 25, 400, 1, 2, 200)
	}
	return out
}

// numbersAround returns numbers of which the first three are from 0 to one less
// than the given one, and the others are not.
func numbersAround(nodes int) []int {
	return []int{0, nodes - 1, nodes / 2, -1, nodes, nodes + 1, -nodes, 4001, 1 << 32, -1 << 32, most, least}
}

// P1 to P4 for many networks.

func TestManyTrips(t *testing.T) {
	var k seen
	for _, x := range mixes() {
		k.holdAny(t, x)
	}
	if k.refused < 4 {
		t.Errorf("only %d refused", k.refused)
	}
	k.isEnough(t, 100)
}

func TestManySmallTrips(t *testing.T) {
	next := numbers(161)
	var k seen
	for range 3000 {
		n := mixed(next, 2+next(6), next(14), 1+next(6), []int{0, 1, 1, 2, 3})
		x := anyTrip(next, n, next(9))
		k.holdAny(t, x)
		holdAnew(t, next, x)
	}
	k.isEnough(t, 300)
}

func TestManyHorizons(t *testing.T) {
	// P4: with a greater horizon the value is no smaller.
	next := numbers(162)
	for range 60 {
		x := anyTrip(next, mixed(next, 2+next(8), 20, 8, []int{0, 1, 2, 3, 5}), 0)
		before, grown := 0, 0
		for x.last = range 30 {
			value, _ := hold(t, x)
			if value < before {
				t.Errorf("P4: %v: %d, but %d ahead of that", x, value, before)
			}
			if value > before {
				grown++
			}
			before = value
			if x.last%7 == 3 {
				holdAnew(t, next, x)
			}
		}
		if before > 0 && grown < 15 {
			t.Errorf("P4: %v: it grew only %d times", x, grown)
		}
	}
}

func TestTurnedNets(t *testing.T) {
	// DOC.md's P1: the value is the same where all arcs are turned round.
	some := 0
	for _, x := range mixes() {
		if errorAnew(x) != api.OK {
			continue
		}
		value, _ := Most(x.Net, x.s, x.sink, x.last)
		y := trip{api.Net{Nodes: x.Nodes, Hold: !x.Hold, Arcs: table.Turn(x.Arcs)}, x.sink, x.s, x.last}
		isMost(t, y, value)
		isMax(t, y, value)
		if value > 0 {
			some++
		}
	}
	if some < 100 {
		t.Errorf("only %d with a value", some)
	}
}

func TestMoreArcs(t *testing.T) {
	// One more arc adds from 0 to its Cap at each point of time at which it may be
	// entered.
	next := numbers(163)
	grown := 0
	for range 500 {
		x := anyTrip(next, mixed(next, 2+next(5), 1+next(9), 6, []int{0, 1, 2}), next(7))
		before, _ := Most(x.Net, x.s, x.sink, x.last)
		a := arc(next(x.Nodes), next(x.Nodes), next(4), next(5))
		x.Arcs = append(x.Arcs, a)
		after, err := Most(x.Net, x.s, x.sink, x.last)
		if after < before || after > before+a.Cap*max(0, x.last+1-a.Time) || err != api.OK {
			t.Errorf("P1: %v: %d %d, and %d without the last arc", x, after, err, before)
		}
		if after > before {
			grown++
		}
	}
	if grown < 30 {
		t.Errorf("only %d grew", grown)
	}
}

func TestSmallNets(t *testing.T) {
	// All networks of two arcs between three nodes, against all sides; now and then
	// against all plans.
	next := numbers(164)
	var arcs []api.Arc
	for place := range 27 {
		arcs = append(arcs, arc(place%3, place/3%3, 1+place%2, place/9))
	}
	count, plans, several := 0, 0, 0
	products(arcs, 2, func(l []api.Arc) {
		for i, ends := range [][2]int{{0, 1}, {0, 2}, {1, 0}, {1, 2}, {2, 0}, {2, 1}} {
			x := trip{api.Net{Nodes: 3, Hold: (count+i)%2 == 0, Arcs: l}, ends[0], ends[1], count % 3}
			count++
			value, cut, sides := allSides(x)
			if sides > 1 {
				several++
			}
			isMost(t, x, value)
			isCut(t, x, cut...)
			isMax(t, x, value)
			if value > 0 || next(40) == 0 {
				greatest, number := allPlans(t, x)
				isMost(t, x, greatest)
				plans += number
			}
		}
	})
	if count != 27*27*6 || several < 500 || plans < 5000 {
		t.Errorf("only %d, %d with several sides, %d plans", count, several, plans)
	}
}

func TestAllSidesAndAllPlans(t *testing.T) {
	next := numbers(165)
	some, several, plans := 0, 0, 0
	for range 2000 {
		n := mixed(next, 3+next(2), 3+next(2), 3, []int{0, 0, 1})
		x := anyTrip(next, n, next(3))
		value, cut, sides := allSides(x)
		isCut(t, x, cut...)
		isMost(t, x, value)
		isMax(t, x, value)
		if sides > 1 {
			several++
		}
		if value > 0 {
			some++
		}
		if variables := len(n.Arcs) * (x.last + 1); variables <= 9 {
			greatest, number := allPlans(t, x)
			isMost(t, x, greatest)
			plans += number
		}
	}
	if some < 200 || several < 500 || plans < 5000 {
		t.Errorf("only %d with a value, %d with several sides, %d plans", some, several, plans)
	}
}

func TestNoPlanHasMore(t *testing.T) {
	// P4, and DOC.md's P2, for plans made of strolls.
	next := numbers(166)
	plans, reached := 0, 0
	for range 1500 {
		x := anyTrip(next, mixed(next, 3+next(5), 6+next(12), 5, []int{0, 1, 2}), 2+next(8))
		var l []api.Move
		for range 6 {
			longer := append(slices.Clone(l), stroll(next, x)...)
			if _, err := plan.Check(x.Net, x.s, x.sink, x.last, longer); err == api.OK {
				l = longer
			}
		}
		value, err := plan.Check(x.Net, x.s, x.sink, x.last, l)
		if value == 0 || err != api.OK {
			continue
		}
		greatest, err := Most(x.Net, x.s, x.sink, x.last)
		cut, errCut := Cut(x.Net, x.s, x.sink, x.last)
		if value > greatest || err != api.OK || errCut != api.OK || greatest != capacityOf(x, cut) {
			t.Errorf("P4: %v: %v has the value %d, more than %d %d or than %v %d", x, l, value, greatest, err, cut, errCut)
		}
		plans++
		if value == greatest {
			reached++
		}
	}
	if plans < 300 || reached < 20 {
		t.Errorf("only %d plans, of which %d were best", plans, reached)
	}
}

// stroll returns movements of 1 from s to the sink, from any point of time on, or
// none if they are not there in time. Where they may wait, they do now and then.
func stroll(next func(below int) int, x trip) []api.Move {
	node, at := x.s, next(x.last+1)/2
	var l []api.Move
	for range 4 * x.Nodes {
		var open []int
		for i, a := range x.Arcs {
			if a.From == node && a.To != x.s && at+a.Time <= x.last {
				open = append(open, i)
			}
		}
		if len(open) == 0 {
			return nil
		}
		i := open[next(len(open))]
		l = append(l, move(i, at, 1))
		if at, node = at+x.Arcs[i].Time, x.Arcs[i].To; node == x.sink {
			return l
		}
		if x.Hold && next(3) == 0 {
			at = min(x.last, at+next(4))
		}
	}
	return nil
}

// Errors of the network, of the ends, of the horizon and of the fit.

func TestErrorsOfCheckComeFirst(t *testing.T) {
	right := api.Arc{To: 1, Cap: 3, Time: 4}
	wrong := api.Arc{From: 2, To: 1}
	great := api.Arc{To: 1, Time: twenty + 1}
	for _, c := range []struct {
		nodes int
		arcs  []api.Arc
		want  api.Errno
	}{
		{0, nil, api.ErrNet}, {-1, nil, api.ErrNet}, {least, nil, api.ErrNet}, {0, []api.Arc{great}, api.ErrNet}, {0, someArcs(201), api.ErrNet},
		{51, nil, api.ErrLimit}, {most, nil, api.ErrLimit}, {51, []api.Arc{wrong}, api.ErrLimit},
		{1, someArcs(201), api.ErrLimit}, {50, someArcs(5000), api.ErrLimit}, {2, append([]api.Arc{wrong}, someArcs(200)...), api.ErrLimit},
		{2, []api.Arc{{From: -1}}, api.ErrNet}, {2, []api.Arc{{From: 2}}, api.ErrNet}, {2, []api.Arc{{From: least}}, api.ErrNet},
		{2, []api.Arc{{To: -1}}, api.ErrNet}, {2, []api.Arc{{To: 2}}, api.ErrNet}, {2, []api.Arc{{To: most}}, api.ErrNet},
		{2, []api.Arc{{Cap: -1}}, api.ErrNet}, {2, []api.Arc{{Time: -1}}, api.ErrNet}, {2, []api.Arc{{To: 1, Time: least}}, api.ErrNet},
		{2, []api.Arc{{Cap: twenty + 1}}, api.ErrLimit}, {2, []api.Arc{{Time: twenty + 1}}, api.ErrLimit}, {2, []api.Arc{{To: 1, Cap: most}}, api.ErrLimit},
		{2, []api.Arc{right, wrong, great}, api.ErrNet}, {2, []api.Arc{right, great, wrong}, api.ErrLimit},
		{2, append(someArcs(199), wrong), api.ErrNet}, {2, append(someArcs(199), great), api.ErrLimit},
	} {
		x := trip{Net: api.Net{Nodes: c.nodes, Arcs: c.arcs}}
		for _, x.last = range []int{0, 5, 50, -1, longest, longest + 1, most, least} {
			for _, x.s = range numbersAround(c.nodes) {
				for _, x.sink = range []int{0, 1, c.nodes - 1, -1, x.s} {
					isRefused(t, x, c.want)
				}
			}
		}
	}
}

func TestEnds(t *testing.T) {
	good, bad := 0, 0
	var k seen
	for _, n := range []api.Net{{Nodes: 2}, line(2, 3, 1), {Nodes: 3, Arcs: someArcs(200)}, line(7, 2, 0), line(49, 3, 1), line(50, twenty, 0), {Nodes: 50, Arcs: someArcs(200)}} {
		x := trip{Net: n}
		for _, x.s = range numbersAround(n.Nodes) {
			for _, x.sink = range append(numbersAround(n.Nodes), x.s) {
				if x.last = 2; x.s >= 0 && x.s < n.Nodes && x.sink >= 0 && x.sink < n.Nodes && x.s != x.sink {
					k.holdAny(t, x)
					good++
					continue
				}
				// ErrEnds comes ahead of what is wrong with the horizon, and ahead of
				// whether the network fits it.
				for _, x.last = range []int{2, 0, -1, least, 1000, longest, longest + 1, most} {
					isRefused(t, x, api.ErrEnds)
				}
				bad++
			}
		}
	}
	if good < 30 || bad < 500 || k.refused > 0 || k.some < 5 {
		t.Errorf("only %d ends that are right, and %d others: %+v", good, bad, k)
	}
}

func TestEndsOfAllSizes(t *testing.T) {
	for nodes := 1; nodes <= 50; nodes++ {
		x := trip{Net: line(nodes, 1, 0), last: 3}
		for node := -2; node <= nodes+1; node++ {
			for _, ends := range [][2]int{{node, node}, {node, -1}, {-1, node}, {nodes, node}, {node, nodes}} {
				x.s, x.sink = ends[0], ends[1]
				isRefused(t, x, api.ErrEnds)
			}
			if x.s, x.sink = node, nodes-1; node >= 0 && node < nodes-1 {
				isMost(t, x, 4)
				isMax(t, x, 4)
				isCut(t, x, slot(node, 0), slot(node, 1), slot(node, 2), slot(node, 3))
				x.s, x.sink = nodes-1, node
				isMost(t, x, 0)
				isMax(t, x, 0)
				isCut(t, x, slot(nodes-1, 0), slot(nodes-1, 1), slot(nodes-1, 2), slot(nodes-1, 3))
			}
		}
	}
}

func TestHorizons(t *testing.T) {
	for _, n := range []api.Net{line(3, 2, 1), {Nodes: 2}, {Nodes: 2, Arcs: someArcs(9)}, {Nodes: 50, Arcs: someArcs(200)}} {
		x := trip{Net: n, sink: 1}
		// That comes ahead of whether the network fits.
		for _, x.last = range []int{-1, -2, -longest, -1 << 32, least, least + 1, least / 200, least/2 - 1} {
			isRefused(t, x, api.ErrArg)
		}
		// So far that plus 1, or times the nodes or the arcs, it does not fit; some of
		// these products come to 0, or to a number that would fit, if they are cut off.
		for _, x.last = range []int{longest + 1, longest + 2, 4000, 1 << 20, 1 << 32, 1<<62 - 1, 1 << 62, 1<<63 - 1, 1<<61 - 1, 1<<61 + 1, most, most - 1, most / 2, most / 3, most / 50, most / 200} {
			isRefused(t, x, api.ErrLimit)
		}
	}
	var k seen
	for _, n := range []api.Net{{Nodes: 2}, {Nodes: 3}, line(3, 2, 1), line(3, 2, 0), line(2, twenty, 1), line(3, 5, longest/2), {Nodes: 2, Arcs: someArcs(9)}} {
		for _, last := range []int{0, 1, 2, longest - 1, longest} {
			k.holdAny(t, trip{n, 0, n.Nodes - 1, last})
		}
	}
	if k.refused > 0 || k.none < 10 || k.some < 10 {
		t.Errorf("%+v", k)
	}
}

func TestAsManyCopiesAsMayBe(t *testing.T) {
	for nodes := 2; nodes <= 50; nodes++ {
		last := min(longest, 4000/nodes-1)
		x := along(nodes, 3, 1, last)
		want := 3 * max(0, last+1-(nodes-1))
		for _, x.Hold = range []bool{true, false} {
			isMost(t, x, want)
			isMax(t, x, want)
			if _, err := Cut(x.Net, x.s, x.sink, x.last); err != api.OK {
				t.Errorf("P3: %d nodes within %d: %d", nodes, last, err)
			}
		}
		for _, x.last = range []int{last + 1, last + 2, 2*last + 2, longest + 1} {
			isRefused(t, x, api.ErrLimit)
		}
	}
	// They come to just 4000.
	for _, c := range [][2]int{{4, 1000}, {5, 800}, {8, 500}, {10, 400}, {16, 250}, {20, 200}, {25, 160}, {32, 125}, {40, 100}, {50, 80}} {
		x := along(c[0], 3, 0, c[1]-1)
		isBoth(t, x, 3*c[1])
		x.last++
		isRefused(t, x, api.ErrLimit)
	}
}

func TestAsManyArcsAsMayBe(t *testing.T) {
	for arcs := 1; arcs <= 200; arcs += 1 + arcs/4 {
		last := min(longest, 10000/arcs-1)
		x := from(2, last, slices.Repeat([]api.Arc{arc(0, 1, 7, 0)}, arcs)...)
		want := 7 * arcs * (last + 1)
		isMost(t, x, want)
		isMax(t, x, want)
		if c, err := Cut(x.Net, x.s, x.sink, x.last); len(c) != last+1 || err != api.OK {
			t.Errorf("P3: %d arcs within %d: %v %d", arcs, last, c, err)
		}
		for _, x.last = range []int{last + 1, last + 2, 2*last + 2, longest + 1} {
			isRefused(t, x, api.ErrLimit)
		}
	}
	// They come to just 10000.
	for _, c := range [][2]int{{10, 1000}, {16, 625}, {20, 500}, {25, 400}, {40, 250}, {50, 200}, {80, 125}, {100, 100}, {125, 80}, {200, 50}} {
		x := from(3, c[1]-1, slices.Repeat([]api.Arc{arc(0, 2, 7, 0)}, c[0])...)
		isBoth(t, x, 70000)
		x.last++
		isRefused(t, x, api.ErrLimit)
	}
}

// What the value is, and where the cut is.

func TestValues(t *testing.T) {
	for _, c := range []struct {
		x    trip
		want []int // within 0, 1, and so on
	}{
		{along(3, 2, 1, 0), []int{0, 0, 2, 4, 6, 8, 10}},
		{along(4, 3, 0, 0), []int{3, 6, 9, 12}},
		{along(3, 1, 3, 0), []int{0, 0, 0, 0, 0, 0, 1, 2, 3}},
		// ends side by side
		{from(2, 0, arc(0, 1, 1, 0), arc(0, 1, 2, 1), arc(0, 1, 4, 3)), []int{1, 4, 7, 14, 21}},
		{from(2, 0, arc(0, 1, 3, 2), arc(0, 1, 3, 2)), []int{0, 0, 6, 12}},
		// a Cap of 0, and of as much as may be
		{from(2, 0, arc(0, 1, 0, 0), arc(0, 1, 0, 1)), []int{0, 0, 0}},
		{from(3, 0, arc(0, 1, twenty, 0), arc(1, 2, 0, 0), arc(0, 2, twenty, 1)), []int{0, twenty, 2 * twenty}},
		// a Time of as much as may be
		{from(2, 0, arc(0, 1, 5, twenty), arc(0, 1, 5, longest)), []int{0, 0, 0}},
		{from(3, 0, arc(0, 1, 5, twenty), arc(1, 2, 5, 0), arc(0, 2, 1, 0)), []int{1, 2, 3}},
		// a cycle that takes no time, on the way
		{from(4, 0, arc(0, 1, 2, 0), arc(1, 2, 1, 0), arc(2, 1, 1, 0), arc(2, 3, 2, 0)), []int{1, 2, 3}},
		// one that is not on the way
		{from(4, 0, arc(1, 2, 5, 0), arc(2, 1, 5, 0), arc(0, 3, 2, 1)), []int{0, 2, 4}},
		// arcs that lead to s, and that begin at t
		{from(3, 0, arc(1, 0, 9, 0), arc(0, 1, 2, 0), arc(2, 1, 9, 0), arc(1, 2, 3, 0), arc(2, 0, 9, 0), arc(0, 0, 9, 0), arc(2, 2, 9, 1)), []int{2, 4, 6}},
		// only such ones
		{from(3, 0, arc(1, 0, 9, 0), arc(2, 1, 9, 0), arc(2, 0, 9, 0)), []int{0, 0, 0}},
		// arcs from a node to itself
		{from(3, 0, arc(1, 1, 9, 0), arc(0, 1, 2, 1), arc(1, 1, 9, 1), arc(1, 2, 1, 0), arc(2, 2, 3, 0)), []int{0, 1, 2, 3}},
		// what comes at a time can go on only little by little
		{from(3, 0, arc(0, 1, 5, 0), arc(1, 2, 2, 0)), []int{2, 4, 6}},
		{from(3, 0, arc(0, 1, 5, 4), arc(1, 2, 2, 0)), []int{0, 0, 0, 0, 2, 4}},
		// a fast way that is narrow, and a slow one that is wide
		{from(4, 0, arc(0, 1, 1, 0), arc(1, 3, 5, 1), arc(0, 2, 3, 2), arc(2, 3, 2, 2), arc(2, 1, 4, 0)), []int{0, 1, 2, 6, 10, 14}},
		// the shortest path, 0-1-2-3, is in the way of two others
		{from(4, 0, arc(0, 1, 1, 0), arc(1, 2, 1, 0), arc(2, 3, 1, 0), arc(0, 2, 1, 1), arc(1, 3, 1, 1)), []int{1, 2, 4, 6, 8}},
		{from(4, 0, arc(1, 2, 1, 0), arc(0, 1, 1, 0), arc(0, 2, 1, 3), arc(1, 3, 1, 3), arc(2, 3, 1, 0)), []int{1, 2, 3, 4, 5, 6, 8, 10}},
	} {
		for c.x.last = range c.want {
			isBoth(t, c.x, c.want[c.x.last])
		}
	}
}

func TestLines(t *testing.T) {
	for nodes := 2; nodes <= 9; nodes++ {
		for _, time := range []int{0, 1, 2, 5} {
			for last := range 22 {
				// What begins so late, or later, does not come in time.
				late := max(0, last+1-(nodes-1)*time)
				x := along(nodes, 4, time, last)
				var cut []api.Slot
				for at := range last + 1 {
					for node := range nodes {
						if node == 0 || at >= late+node*time && late+node*time <= last {
							cut = append(cut, slot(node, at))
						}
					}
				}
				for _, x.Hold = range []bool{true, false} {
					isMost(t, x, 4*late)
					isMax(t, x, 4*late)
					isCut(t, x, cut...)
				}
			}
		}
	}
}

func TestWhereTheCutIs(t *testing.T) {
	// Where several sides have the least capacity, it is the smallest one.
	isCut(t, along(4, 2, 0, 0), slot(0, 0))
	isCut(t, along(4, 2, 0, 1), slot(0, 0), slot(0, 1))
	for place := range 6 {
		x := along(7, 5, 0, 0)
		x.Arcs[place].Cap = 4
		var want []api.Slot
		for node := range place + 1 {
			want = append(want, slot(node, 0))
		}
		isCut(t, x, want...)
		x.Arcs[5].Cap = 4
		isCut(t, x, want...)
	}
	// Where there is no way, it is all that can be reached in time.
	x := from(4, 3, arc(0, 1, 5, 1), arc(1, 1, 5, 2), arc(2, 3, 5, 0))
	isCut(t, x, slot(0, 0), slot(0, 1), slot(1, 1), slot(0, 2), slot(1, 2), slot(0, 3), slot(1, 3))
	x.Arcs = []api.Arc{arc(0, 1, 5, 3), arc(1, 3, 5, 1)}
	isCut(t, x, slot(0, 0), slot(0, 1), slot(0, 2), slot(0, 3), slot(1, 3))
	x.Arcs[0].Cap = 0
	isCut(t, x, slot(0, 0), slot(0, 1), slot(0, 2), slot(0, 3))
	// Who may wait reaches the node at all later points of time.
	x.Arcs = []api.Arc{arc(0, 1, 5, 1), arc(1, 2, 0, 0), arc(0, 3, 1, 3)}
	x.Arcs = append(x.Arcs, arc(1, 3, 1, 2))
	isCut(t, x, slot(0, 0), slot(0, 1), slot(1, 1), slot(0, 2), slot(1, 2), slot(0, 3), slot(1, 3))
	// Only what comes to 1 at 0 goes on in time, so that 1 is not in the cut then.
	x = from(3, 2, arc(0, 1, 1, 0), arc(1, 2, 5, 2))
	isCut(t, x, slot(0, 0), slot(0, 1), slot(1, 1), slot(0, 2), slot(1, 2))
	x.Hold = true
	isCut(t, x, slot(0, 0), slot(0, 1), slot(1, 1), slot(0, 2), slot(1, 2))
	// A step back leads into the cut: 3 to 1 against what comes from 1.
	x = from(5, 0, arc(0, 1, 1, 0), arc(1, 3, 1, 0), arc(0, 2, 1, 0), arc(2, 3, 1, 0), arc(3, 4, 1, 0))
	isMost(t, x, 1)
	isCut(t, x, slot(0, 0), slot(1, 0), slot(2, 0), slot(3, 0))
}

func TestNothingArrives(t *testing.T) {
	for _, x := range []trip{
		from(2, 0), from(2, longest), from(50, 79), from(3, 5, arc(0, 1, 5, 0)), from(3, 5, arc(1, 2, 5, 0)), from(2, 5, arc(0, 1, 5, 6)),
		from(2, 5, arc(1, 0, 5, 0)), from(3, 5, arc(0, 1, 5, 3), arc(1, 2, 5, 3)), from(3, 5, arc(0, 1, 0, 0), arc(1, 2, 5, 0)),
		from(4, 5, arc(1, 2, 5, 0), arc(2, 1, 5, 0)), from(4, 9, arc(1, 2, 5, 1), arc(2, 1, 5, 1), arc(1, 1, 5, 0), arc(0, 0, 5, 0), arc(3, 3, 5, 0)),
		along(11, 3, 1, 9), along(2, twenty, twenty, longest),
	} {
		isBoth(t, x, 0)
	}
	for _, arcs := range [][]api.Arc{nil, {}} {
		isBoth(t, trip{api.Net{Nodes: 4, Arcs: arcs}, 3, 1, 2}, 0)
		isCut(t, trip{api.Net{Nodes: 4, Hold: true, Arcs: arcs}, 3, 1, 2}, slot(3, 0), slot(3, 1), slot(3, 2))
	}
}

func TestChainsWithoutTime(t *testing.T) {
	for nodes := 2; nodes <= 50; nodes++ {
		for _, last := range []int{0, 1, 4} {
			isBoth(t, along(nodes, nodes, 0, last), nodes*(last+1))
		}
		// A ring: both ways round, of which one ends at t at once.
		x := along(nodes, 2, 0, 3)
		x.Arcs = append(x.Arcs, arc(nodes-1, 0, 5, 0))
		isBoth(t, x, 8)
		x.s, x.sink = nodes-1, 0
		isBoth(t, x, 20)
		for node := range nodes {
			x.Arcs = append(x.Arcs, arc(node, max(0, node-1), 3, 0))
		}
		isBoth(t, x, 4*(5+3))
	}
}

func TestTheGreatestValues(t *testing.T) {
	wide := func(from, to, times int) []api.Arc {
		return slices.Repeat([]api.Arc{arc(from, to, twenty, 0)}, times)
	}
	isBoth(t, from(2, 49, wide(0, 1, 200)...), 10000*twenty)
	isBoth(t, from(3, 49, append(wide(0, 1, 100), wide(1, 2, 100)...)...), 5000*twenty)
	isBoth(t, from(3, 49, append(wide(0, 1, 150), wide(1, 2, 50)...)...), 2500*twenty)
	isBoth(t, from(2, longest, wide(0, 1, 9)...), 9*(longest+1)*twenty)
	isBoth(t, from(2, longest, arc(0, 1, twenty, longest)), twenty)
	isBoth(t, along(3, twenty, longest/2, longest), twenty)
	isBoth(t, along(3, twenty, 1, longest), (longest-1)*twenty)
	// All that waits at once: half of the points of time are for coming.
	x := from(3, 49, append(wide(0, 1, 100), wide(1, 2, 100)...)...)
	for i := range x.Arcs[:100] {
		x.Arcs[i].Time = 25
	}
	isBoth(t, x, 100*25*twenty)
}

func TestOnlyTheEndsOfAnArcCount(t *testing.T) {
	// Arcs between the same nodes, in any order, have the value of one.
	next := numbers(167)
	for range 200 {
		n := mixed(next, 2+next(5), 1+next(8), 9, []int{0, 1, 2})
		x := anyTrip(next, n, next(8))
		value, _ := hold(t, x)
		cut, _ := Cut(x.Net, x.s, x.sink, x.last)
		split := x
		split.Arcs = nil
		for i := range x.Arcs {
			a := x.Arcs[len(x.Arcs)-1-i]
			part := next(a.Cap + 1)
			split.Arcs = append(split.Arcs, arc(a.From, a.To, part, a.Time))
			a.Cap -= part
			split.Arcs = append(split.Arcs, a)
		}
		isMost(t, split, value)
		isMax(t, split, value)
		isCut(t, split, cut...)
	}
}

// Layers 9 and 10: without time, one point of time is all.

func TestOnePointOfTime(t *testing.T) {
	next := numbers(168)
	some := 0
	for range 600 {
		x := anyTrip(next, mixed(next, 2+next(20), 1+next(60), 1+next(12), []int{0}), 0)
		side, capacity, err := mincut.Least(x.Net, x.s, x.sink)
		if err != api.OK {
			t.Fatal(err)
		}
		isMost(t, x, capacity)
		isMax(t, x, capacity)
		if capacity > 0 {
			some++
		}
		isCut(t, x, slotsOf(x, side)...)
	}
	if some < 200 {
		t.Errorf("only %d with a value", some)
	}
}

// R3, R4.

func TestArgumentsStay(t *testing.T) {
	wrong := []trip{{}, {Net: api.Net{Nodes: 51, Arcs: someArcs(3)}}, {Net: api.Net{Nodes: 2, Arcs: []api.Arc{{To: 1}, {To: 2}, {Cap: twenty + 1}}}, sink: 1}, along(3, 2, 1, -1), along(3, 2, 1, longest+1)}
	for _, x := range append(wrong, mixes()...) {
		arcs := slices.Clone(x.Arcs)
		// One less than what is given, and all that is given.
		for _, less := range []int{1, 0} {
			n := x.Net
			n.Arcs = x.Arcs[:max(0, len(x.Arcs)-less)]
			Most(n, x.s, x.sink, x.last)
			Max(n, x.s, x.sink, x.last)
			Cut(n, x.s, x.sink, x.last)
		}
		if !slices.Equal(x.Arcs, arcs) {
			t.Fatalf("R3: %v became %v", arcs, x.Arcs)
		}
	}
}

func TestResultsAreApart(t *testing.T) {
	x := along(3, 4, 1, 3)
	x.Hold = true
	for range 3 {
		hold(t, x)
		isMax(t, x, 8)
		l, _, _ := Max(x.Net, x.s, x.sink, x.last)
		c, _ := Cut(x.Net, x.s, x.sink, x.last)
		for i := range l[:cap(l)] {
			l[:cap(l)][i] = move(77, 77, 77)
		}
		for i := range c[:cap(c)] {
			c[:cap(c)][i] = slot(77, 77)
		}
	}
	if !slices.Equal(x.Arcs, line(3, 4, 1).Arcs) {
		t.Errorf("R3: %v", x.Arcs)
	}
}

func TestEarlierCallsMakeNoDifference(t *testing.T) {
	for i, x := range mixes() {
		if i%5 > 0 || errorAnew(x) != api.OK {
			continue
		}
		l, k, err := Max(x.Net, x.s, x.sink, x.last)
		c, errCut := Cut(x.Net, x.s, x.sink, x.last)
		isRefused(t, trip{Net: api.Net{Nodes: 51}}, api.ErrLimit)
		hold(t, along(5, 3, 0, 2))
		lAgain, kAgain, errAgain := Max(x.Net, x.s, x.sink, x.last)
		cAgain, errCutAgain := Cut(x.Net, x.s, x.sink, x.last)
		if !slices.Equal(l, lAgain) || k != kAgain || err != errAgain || !slices.Equal(c, cAgain) || errCut != errCutAgain {
			t.Errorf("R4: %v", x)
		}
	}
}

// Ways: the solver has the expanded network in it, and its methods.

func TestTheSolverIsTheNetwork(t *testing.T) {
	embedded := reflect.TypeFor[solver]().Field(0)
	if !embedded.Anonymous || embedded.Type != reflect.TypeFor[*expanded]() {
		t.Errorf("Ways: %v", embedded)
	}
	x := from(4, 5, arc(0, 1, 1, 0), arc(1, 2, 1, 0), arc(2, 3, 1, 0), arc(0, 2, 1, 1), arc(1, 3, 1, 1))
	wide, err := expandedOf(x.Net, x.s, x.sink, x.last)
	if err != api.OK {
		t.Fatal(err)
	}
	v := solve(wide)
	if v.expanded != wide || v.firstEnd() != 24 || v.lastEnd() != 25 || v.value() != 10 {
		t.Errorf("Ways: %d %d %d", v.firstEnd(), v.lastEnd(), v.value())
	}
	steps := 0
	for node, l := range v.steps {
		for _, y := range l {
			back := api.Step{Arc: y.Arc, Back: !y.Back}
			if v.begin(y) != node || v.end(back) != node || v.begin(back) != v.end(y) || v.room(y)+v.room(back) != v.Arcs[y.Arc].Cap {
				t.Errorf("Ways: %v at %d", y, node)
			}
			steps++
		}
	}
	if steps != 2*len(v.Arcs) {
		t.Errorf("Ways: %d steps, %d arcs", steps, len(v.Arcs))
	}
}

func TestExamples(t *testing.T) {
	x := along(3, 2, 1, 2)
	isBoth(t, x, 2)
	x.last = 5
	isBoth(t, x, 8)
	x.last = 1
	for _, x.Hold = range []bool{true, false} {
		isCut(t, x, slot(0, 0), slot(0, 1), slot(1, 1))
	}
	// DOC.md's: by 0, 1, 2, 3, 4 there have arrived 0, 0, 2, 4, 6.
	for last, want := range []int{0, 0, 2, 4, 6} {
		x.last = last
		isBoth(t, x, want)
	}
}
