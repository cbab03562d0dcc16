package repeat

import (
	"math"
	"slices"
	"testing"

	"ebbtide/api"
	"ebbtide/cost"
	"ebbtide/decomp"
	"ebbtide/expand"
	"ebbtide/netfmt"
	"ebbtide/plan"
	"ebbtide/span"
	"ebbtide/static"
	"ebbtide/table"
	"ebbtide/timeflow"
)

const (
	most  = math.MaxInt64
	least = math.MinInt64
	// twenty is what an arc's Cap and Time may be at most.
	twenty = 1048576
	// longest is the greatest horizon.
	longest = 1024
	// never is later than any path takes.
	never = 1 << 40
)

// numbers returns a function that returns one number after the other, the same
// ones in each run.
func numbers(seed uint64) func(below int) int {
	return func(below int) int {
		seed = seed*6364136223846793005 + 1442695040888963407
		return int(seed>>33) % below
	}
}

// arc returns an arc.
func arc(from, to, width, time int) api.Arc {
	return api.Arc{From: from, To: to, Cap: width, Time: time}
}

// move returns a movement of so much.
func move(place, at, amount int) api.Move {
	return api.Move{Arc: place, At: at, N: amount}
}

// slot returns a slot.
func slot(node, at int) api.Slot {
	return api.Slot{Node: node, At: at}
}

// chain returns a chain.
func chain(amount int, arcs ...int) api.Chain {
	return api.Chain{Arcs: arcs, N: amount}
}

// trip is a network, its ends and a horizon.
type trip struct {
	api.Net
	s, sink, last int
}

// The plain ways of working out what the chapter asks for, each by another method
// than the package's. The trips and flows that they are given are right, unless
// they say otherwise.

// tripError returns the error of the network, the ends or the horizon.
func tripError(x trip) api.Errno {
	switch {
	case netfmt.Check(x.Net) != api.OK:
		return netfmt.Check(x.Net)
	case x.s < 0 || x.sink < 0 || x.s >= x.Nodes || x.sink >= x.Nodes || x.s == x.sink:
		return api.ErrEnds
	case x.last < 0:
		return api.ErrArg
	case x.last > longest:
		return api.ErrLimit
	}
	return api.OK
}

// isFlowAnew reports whether f has one number for each arc, from 0 to its Cap.
func isFlowAnew(n api.Net, f []int) bool {
	if len(f) != len(n.Arcs) {
		return false
	}
	for i, a := range n.Arcs {
		if min(max(f[i], 0), a.Cap) != f[i] {
			return false
		}
	}
	return true
}

// staysAnew returns for each node what stays there of a flow.
func staysAnew(n api.Net, f []int) []int {
	stays := make([]int, n.Nodes)
	for i, a := range n.Arcs {
		stays[a.From] -= f[i]
		stays[a.To] += f[i]
	}
	return stays
}

// isBalanced reports whether nothing of a flow stays but at the ends, and nothing
// is lacking at the sink.
func isBalanced(x trip, f []int) bool {
	stays := staysAnew(x.Net, f)
	if stays[x.sink] < 0 {
		return false
	}
	stays[x.s], stays[x.sink] = 0, 0
	return !slices.ContainsFunc(stays, func(k int) bool { return k != 0 })
}

// repeatError returns the error of Repeat for any trip and any flow.
func repeatError(x trip, f []int) api.Errno {
	switch {
	case tripError(x) != api.OK:
		return tripError(x)
	case !isFlowAnew(x.Net, f) || !isBalanced(x, f):
		return api.ErrFlow
	}
	return api.OK
}

// stairsError returns the error of Stairs for any trip and any flow, but for
// ErrCycle.
func stairsError(x trip, f []int) api.Errno {
	switch {
	case netfmt.Check(x.Net) != api.OK:
		return netfmt.Check(x.Net)
	case !isFlowAnew(x.Net, f):
		return api.ErrFlow
	}
	return tripError(x)
}

// pass is a chain as it goes along an arc: how long after it has begun, and how long
// all of it takes.
type pass struct{ there, all, amount int }

// lengthAnew returns how long a chain takes.
func lengthAnew(n api.Net, c api.Chain) int {
	sum := 0
	for _, i := range c.Arcs {
		sum += n.Arcs[i].Time
	}
	return sum
}

// passes returns for each arc the chains that go along it.
func passes(n api.Net, chains []api.Chain) [][]pass {
	out := make([][]pass, len(n.Arcs))
	for _, c := range chains {
		all := lengthAnew(n, c)
		there := 0
		for _, i := range c.Arcs {
			out[i] = append(out[i], pass{there, all, c.N})
			there += n.Arcs[i].Time
		}
	}
	return out
}

// repeatAnew returns the movements of the chains, arc by arc at each point of time: of
// each chain that has begun at a point of time from 0 on, and ends at the horizon at
// the latest.
func repeatAnew(t *testing.T, x trip, f []int) []api.Move {
	t.Helper()
	chains, _, err := decomp.Split(x.Net, x.s, x.sink, f)
	if err != api.OK {
		t.Fatalf("M1: %v of %v: %d", f, x, err)
	}
	all := passes(x.Net, chains)
	var l []api.Move
	for at := range x.last + 1 {
		for i := range x.Arcs {
			sum := 0
			for _, y := range all[i] {
				if begin := at - y.there; begin >= 0 && begin+y.all <= x.last {
					sum += y.amount
				}
			}
			if sum > 0 {
				l = append(l, move(i, at, sum))
			}
		}
	}
	return l
}

// step is a step with room.
type step struct{ from, to, time int }

// stepsOf returns the steps with room, with that along the arc which is appended
// for the trip.
func stepsOf(x trip, f []int) []step {
	out := []step{{x.s, x.sink, x.last + 1}}
	for i, a := range x.Arcs {
		if a.Cap > f[i] {
			out = append(out, step{a.From, a.To, a.Time})
		}
		if f[i] > 0 {
			out = append(out, step{a.To, a.From, 0 - a.Time})
		}
	}
	return out
}

// timesAnew returns for each node the least time of a path from s to it, or never,
// and whether there is no negative cycle on the way. It goes over all steps once for
// each number of steps: with as many as there are nodes, no path is faster than with
// fewer, unless there is one.
func timesAnew(x trip, f []int) (times []int, ok bool) {
	steps := stepsOf(x, f)
	times = slices.Repeat([]int{never}, x.Nodes)
	times[x.s] = 0
	row := slices.Clone(times)
	for count := range x.Nodes {
		next := slices.Repeat([]int{never}, x.Nodes)
		for _, y := range steps {
			if row[y.from] != never {
				next[y.to] = min(next[y.to], row[y.from]+y.time)
			}
		}
		for node, time := range next {
			if count == x.Nodes-1 && time < times[node] {
				return nil, false
			}
			times[node] = min(times[node], time)
		}
		row = next
	}
	return times, true
}

// timesByPaths returns the same by going along all paths that come to no node
// twice, and all cycles at their ends.
func timesByPaths(x trip, f []int) (times []int, ok bool) {
	steps := stepsOf(x, f)
	times, ok = slices.Repeat([]int{never}, x.Nodes), true
	on := slices.Repeat([]int{never}, x.Nodes)
	var walk func(node, time int)
	walk = func(node, time int) {
		if on[node] != never {
			ok = ok && time >= on[node]
			return
		}
		times[node] = min(times[node], time)
		on[node] = time
		for _, y := range steps {
			if y.from == node {
				walk(y.to, time+y.time)
			}
		}
		on[node] = never
	}
	walk(x.s, 0)
	return times, ok
}

// slotsFrom returns the slots of each node from its time on, in their order.
func slotsFrom(x trip, times []int) []api.Slot {
	var l []api.Slot
	for at := range x.last + 1 {
		for node, time := range times {
			if at >= time {
				l = append(l, slot(node, at))
			}
		}
	}
	return l
}

// isCut reports whether the slots are a cut over time, even with Hold.
func isCut(x trip, l []api.Slot) bool {
	in := make(map[api.Slot]int)
	for _, y := range l {
		in[y]++
	}
	for at := range x.last + 1 {
		if in[slot(x.s, at)] == 0 || in[slot(x.sink, at)] > 0 {
			return false
		}
		for node := range x.Nodes {
			if at < x.last && in[slot(node, at)] > in[slot(node, at+1)] {
				return false
			}
		}
	}
	return true
}

// capacityOf returns how much can leave the slots of a cut within the horizon.
func capacityOf(x trip, l []api.Slot) int {
	in := make(map[api.Slot]int)
	for _, y := range l {
		in[y]++
	}
	sum := 0
	for _, a := range x.Arcs {
		for at := 0; at+a.Time <= x.last; at++ {
			if in[slot(a.From, at)] > 0 && in[slot(a.To, at+a.Time)] == 0 {
				sum += a.Cap
			}
		}
	}
	return sum
}

// allFlows calls do with each flow of the network, balanced or not.
func allFlows(n api.Net, do func(f []int)) {
	f := make([]int, len(n.Arcs))
	var fill func(place int)
	fill = func(place int) {
		if place == len(f) {
			do(f)
			return
		}
		for k := range n.Arcs[place].Cap + 1 {
			f[place] = k
			fill(place + 1)
		}
		f[place] = 0
	}
	fill(0)
}

// mostOfAllPlans returns the greatest value of all the plans in which nobody waits,
// and how many they are.
func mostOfAllPlans(x trip) (value, count int) {
	var l []api.Move
	var try func(place int)
	try = func(place int) {
		if place == len(x.Arcs)*(x.last+1) {
			if k, err := plan.Check(x.Net, x.s, x.sink, x.last, l); err == api.OK {
				value = max(value, k)
				count++
			}
			return
		}
		i, at := place%len(x.Arcs), place/len(x.Arcs)
		for amount := range x.Arcs[i].Cap + 1 {
			l = append(l, move(i, at, amount))
			try(place + 1)
			l = l[:len(l)-1]
			if a := x.Arcs[i]; a.To == x.s || a.From == x.sink || at+a.Time > x.last {
				break
			}
		}
	}
	try(0)
	return value, count
}

// products calls do with each list that has so many of the items.
func products[T any](items []T, length int, do func(l []T)) {
	l := make([]T, length)
	var fill func(place int)
	fill = func(place int) {
		if place == length {
			do(l)
			return
		}
		for _, x := range items {
			l[place] = x
			fill(place + 1)
		}
	}
	fill(0)
}

// What fails unless the calls answer as the chapter asks.

// isRepeatRefused fails unless Repeat answers that error and nothing else.
func isRepeatRefused(t *testing.T, x trip, f []int, want api.Errno) {
	t.Helper()
	if l, err := Repeat(x.Net, x.s, x.sink, f, x.last); len(l) != 0 || err != want {
		t.Errorf("Q1: %d nodes, %d arcs, from %d to %d within %d, flow of %d: %v %d, want %d", x.Nodes, len(x.Arcs), x.s, x.sink, x.last, len(f), l, err, want)
	}
}

// isMaxRefused fails unless Max answers that error and nothing else.
func isMaxRefused(t *testing.T, x trip, want api.Errno) {
	t.Helper()
	if l, k, err := Max(x.Net, x.s, x.sink, x.last); len(l) != 0 || k != 0 || err != want {
		t.Errorf("Q2: %d nodes, %d arcs, from %d to %d within %d: %v %d %d, want %d", x.Nodes, len(x.Arcs), x.s, x.sink, x.last, l, k, err, want)
	}
}

// isStairsRefused fails unless Stairs answers that error and nothing else.
func isStairsRefused(t *testing.T, x trip, f []int, want api.Errno) {
	t.Helper()
	if l, err := Stairs(x.Net, x.s, x.sink, f, x.last); len(l) != 0 || err != want {
		t.Errorf("Q3: %d nodes, %d arcs, from %d to %d within %d, flow of %d: %v %d, want %d", x.Nodes, len(x.Arcs), x.s, x.sink, x.last, len(f), l, err, want)
	}
}

// areRefused fails unless all calls answer that error, whatever the flow, except
// that Stairs answers ErrFlow first where the network is right and the flow is not.
func areRefused(t *testing.T, x trip, want api.Errno) {
	t.Helper()
	isMaxRefused(t, x, want)
	for _, f := range [][]int{nil, zero(x.Net), full(x.Net), {-1}, append(zero(x.Net), most)} {
		isRepeatRefused(t, x, f, want)
		if netfmt.Check(x.Net) == api.OK && !isFlowAnew(x.Net, f) {
			isStairsRefused(t, x, f, api.ErrFlow)
		} else {
			isStairsRefused(t, x, f, want)
		}
	}
}

// isRepeated fails unless Repeat answers those movements.
func isRepeated(t *testing.T, x trip, f []int, want ...api.Move) {
	t.Helper()
	if l, err := Repeat(x.Net, x.s, x.sink, f, x.last); !slices.Equal(l, want) || err != api.OK {
		t.Errorf("Q1: %v of %v: %v %d, want %v", f, x, l, err, want)
	}
}

// isPlan fails unless that is a merged plan of that value in which nobody waits.
func isPlan(t *testing.T, x trip, l []api.Move, want int) {
	t.Helper()
	for _, x.Hold = range []bool{true, false} {
		if k, err := plan.Check(x.Net, x.s, x.sink, x.last, l); k != want || err != api.OK {
			t.Errorf("Q2: %v in %v: %d %d, want %d", l, x, k, err, want)
		}
		if is, err := plan.Still(x.Net, x.s, x.sink, x.last, l); !is || err != api.OK {
			t.Errorf("Q2: %v in %v: somebody waits: %d", l, x, err)
		}
	}
	if merged, err := table.Moves(l); !slices.Equal(l, merged) || err != api.OK {
		t.Errorf("Q2: %v in %v is not merged: %d", l, x, err)
	}
}

// isMax fails unless Max answers that, with a plan in which nobody waits. It returns
// the plan.
func isMax(t *testing.T, x trip, want int) []api.Move {
	t.Helper()
	l, k, err := Max(x.Net, x.s, x.sink, x.last)
	if k != want || err != api.OK {
		t.Errorf("Q2: %v: %d %d, want %d", x, k, err, want)
	}
	isPlan(t, x, l, want)
	if want == 0 && len(l) > 0 {
		t.Errorf("Q2: %v: %v brings nothing", x, l)
	}
	return l
}

// areStairs fails unless Stairs answers those slots.
func areStairs(t *testing.T, x trip, f []int, want ...api.Slot) {
	t.Helper()
	if l, err := Stairs(x.Net, x.s, x.sink, f, x.last); !slices.Equal(l, want) || err != api.OK {
		t.Errorf("Q3: %v of %v: %v %d, want %v", f, x, l, err, want)
	}
}

// areStairsFrom fails unless Stairs answers the slots of each node from that time
// on.
func areStairsFrom(t *testing.T, x trip, f []int, times ...int) {
	t.Helper()
	areStairs(t, x, f, slotsFrom(x, times)...)
}

// seen counts what has been seen.
type seen struct {
	repeated, beyond, cycles     int // flows that are repeated, with chains that do not fit, and with cycles
	stairs, early, negative      int // stairs, with nodes from below 0 on, and negative cycles
	more, nothing, wider, onward int // greatest values, those of 0, and their stairs with other nodes than s, and from the arc that is appended
}

// testRepeat holds Repeat against Q1 and Q4 for any trip and flow.
func (k *seen) testRepeat(t *testing.T, x trip, f []int) {
	t.Helper()
	if err := repeatError(x, f); err != api.OK {
		isRepeatRefused(t, x, f, err)
		return
	}
	want := repeatAnew(t, x, f)
	isRepeated(t, x, f, want...)
	clean, _ := decomp.Clean(x.Net, x.s, x.sink, f)
	if !slices.Equal(f, clean) {
		k.cycles++
	}
	isRepeated(t, x, clean, want...)
	chains, _, _ := decomp.Split(x.Net, x.s, x.sink, f)
	value, fit := 0, true
	for _, c := range chains {
		all := lengthAnew(x.Net, c)
		value += c.N * max(0, x.last+1-all)
		fit = fit && all <= x.last
	}
	isPlan(t, x, want, value)
	if !fit {
		k.beyond++
	} else if worth, err := span.Worth(x.Net, x.s, x.sink, clean, x.last); worth != value || err != api.OK {
		t.Errorf("Q4: %v of %v: the plan has the value %d, want %d %d", f, x, value, worth, err)
	}
	if value > 0 {
		k.repeated++
	}
}

// testStairs holds Stairs against Q3 for any trip and flow.
func (k *seen) testStairs(t *testing.T, x trip, f []int) {
	t.Helper()
	if err := stairsError(x, f); err != api.OK {
		isStairsRefused(t, x, f, err)
		return
	}
	times, ok := timesAnew(x, f)
	if !ok {
		isStairsRefused(t, x, f, api.ErrCycle)
		k.negative++
		return
	}
	areStairsFrom(t, x, f, times...)
	k.stairs++
	if slices.Min(times) < 0 {
		k.early++
	}
}

// testMax holds Max against Q2 and Q4, and the stairs of a flow of the greatest worth,
// for a trip that is right: a plan and a cut of the same value show that neither can
// be better. It returns the value.
func (k *seen) testMax(t *testing.T, x trip) int {
	t.Helper()
	f, worth, err := span.Best(x.Net, x.s, x.sink, x.last)
	if err != api.OK {
		t.Fatalf("L3: %v: %d", x, err)
	}
	isMax(t, x, worth)
	k.testStairs(t, x, f)
	l, err := Stairs(x.Net, x.s, x.sink, f, x.last)
	if capacity := capacityOf(x, l); !isCut(x, l) || capacity != worth || err != api.OK {
		t.Errorf("Q4: %v of %v: %v %d has the capacity %d, want %d", f, x, l, err, capacity, worth)
	}
	if len(l) > x.last+1 {
		k.wider++
	}
	// What is reached from s alone, if no arc is appended.
	times, reached, _ := cost.Far(x.Net, f, x.s)
	for _, y := range l {
		if !reached[y.Node] || y.At < times[y.Node] {
			k.onward++
			break
		}
	}
	if worth == 0 {
		k.nothing++
	} else {
		k.more++
	}
	return worth
}

// Networks and flows to hold the calls against.

// someArcs returns so many arcs from 0 to itself.
func someArcs(n int) []api.Arc {
	l := make([]api.Arc, n)
	for i := range l {
		l[i] = api.Arc{Cap: i, Time: 2 * i}
	}
	return l
}

// line returns a network whose arcs lead from each node to the one after it.
func line(nodes, width, time int) api.Net {
	n := api.Net{Nodes: nodes}
	for node := 1; node < nodes; node++ {
		n.Arcs = append(n.Arcs, arc(node-1, node, width, time))
	}
	return n
}

// along returns the trip through a line, from its first node to its last one.
func along(nodes, width, time, last int) trip {
	return trip{Net: line(nodes, width, time), sink: nodes - 1, last: last}
}

// from returns the trip from the first node to the last one.
func from(nodes, last int, arcs ...api.Arc) trip {
	return trip{api.Net{Nodes: nodes, Arcs: arcs}, 0, nodes - 1, last}
}

// zero returns the flow of zeros.
func zero(n api.Net) []int {
	return make([]int, len(n.Arcs))
}

// full returns the flow in which each arc has as much as its Cap.
func full(n api.Net) []int {
	f := zero(n)
	for i, a := range n.Arcs {
		f[i] = a.Cap
	}
	return f
}

// same returns a flow of so much along each arc.
func same(n api.Net, amount int) []int {
	return slices.Repeat([]int{amount}, len(n.Arcs))
}

// mixed returns a network of that many nodes and arcs of all kinds, which lead to
// any nodes.
func mixed(next func(below int) int, nodes, arcs int) api.Net {
	widths := []int{0, 1, 2, 3, 7, 1000, twenty - 1, twenty}
	times := []int{0, 1, 2, 3, 7, 100, 511, 512, 1023, 1024, 1025, twenty - 1, twenty}
	n := api.Net{Nodes: nodes, Hold: next(2) == 0}
	for range arcs {
		n.Arcs = append(n.Arcs, arc(next(nodes), next(nodes), widths[next(len(widths))], times[next(len(times))]))
	}
	return n
}

// near returns a network whose arcs lead to nodes at most 3 further or 2 before,
// and have Times below the given one.
func near(next func(below int) int, nodes, arcs, width, time int) api.Net {
	n := api.Net{Nodes: nodes, Hold: next(2) == 0}
	for range arcs {
		node := next(nodes)
		n.Arcs = append(n.Arcs, arc(node, max(0, min(node-2+next(6), nodes-1)), next(width+1), next(time)))
	}
	return n
}

// anyTrip returns a trip through a network, more often than not from its first node to
// its last one.
func anyTrip(next func(below int) int, n api.Net, last int) trip {
	x := trip{n, 0, n.Nodes - 1, last}
	if next(3) == 0 {
		x.s = next(n.Nodes)
		x.sink = (x.s + 1 + next(n.Nodes-1)) % n.Nodes
	}
	return x
}

// trips returns trips that are right, the smallest and the greatest among them.
func trips() []trip {
	next := numbers(17)
	out := []trip{
		from(2, 0), from(2, longest), from(50, 0), from(50, longest, someArcs(200)...), along(50, 3, 0, 9), along(50, twenty, 1, 100), along(50, 7, 20, longest),
		along(50, 7, 21, longest), along(2, 1, 1, 1), from(2, 9, arc(0, 1, 7, 0), arc(0, 1, 2, 5), arc(0, 1, 2, 5), arc(0, 1, 0, 0)),
		from(2, 6, arc(0, 1, 4, 3), arc(1, 0, 6, 2), arc(1, 1, 1, 0)),
	}
	for nodes := 2; nodes <= 50; nodes += 1 + next(4) {
		spans := []int{0, 1, 2 + next(8), 10 + next(40), 50 + next(100)}
		for i, time := range []int{1, 2, 4, 10, 40} {
			n := near(next, nodes, min(200, nodes*(2+next(4))), []int{2, 9, twenty}[next(3)], time)
			out = append(out, anyTrip(next, n, spans[i]), anyTrip(next, n, spans[next(5)]))
		}
		out = append(out, anyTrip(next, mixed(next, nodes, nodes), next(300)), anyTrip(next, mixed(next, nodes, min(200, 3*nodes)), longest-next(600)))
	}
	for range 2 {
		out = append(out, anyTrip(next, near(next, 50, 200, 9, 5), 60), anyTrip(next, near(next, 30, 200, twenty, 20), 200), anyTrip(next, mixed(next, 20, 200), longest))
	}
	return out
}

// goAround returns a way of steps with room from a node to another, or to itself, over
// nodes that have not been come to, any one: arcs, and whether they are gone back.
func goAround(next func(below int) int, n api.Net, f []int, node, goal int, been map[int]int) []api.Step {
	been[node] = 1
	first := next(len(n.Arcs) + 1)
	for i := range n.Arcs {
		place := (first + i) % len(n.Arcs)
		for _, x := range []api.Step{{Arc: place}, {Arc: place, Back: true}} {
			begin, end, room := n.Arcs[place].From, n.Arcs[place].To, n.Arcs[place].Cap-f[place]
			if x.Back {
				begin, end, room = end, begin, f[place]
			}
			if begin != node || room == 0 {
				continue
			}
			if end == goal {
				return []api.Step{x}
			}
			if been[end] == 0 {
				if l := goAround(next, n, f, end, goal, been); len(l) > 0 {
					return append([]api.Step{x}, l...)
				}
			}
		}
	}
	return nil
}

// anyFlow returns a flow between the ends of a trip, which may have a value below 0,
// and may go in cycles.
func anyFlow(next func(below int) int, x trip) []int {
	f := zero(x.Net)
	for range next(9) {
		node := next(x.Nodes)
		ends := [][2]int{{x.s, x.sink}, {x.s, x.sink}, {x.s, x.sink}, {x.sink, x.s}, {node, node}, {node, node}}[next(6)]
		l := goAround(next, x.Net, f, ends[0], ends[1], map[int]int{})
		if len(l) == 0 {
			continue
		}
		k := twenty
		for _, y := range l {
			room, _ := static.Room(x.Net, f, y)
			k = min(k, room)
		}
		if pushed, err := static.Push(x.Net, f, l, max(1, next(k+1))); err == api.OK {
			f = pushed
		}
	}
	return f
}

// anyLoad returns a flow that need not be balanced. Most arcs carry nothing.
func anyLoad(next func(below int) int, n api.Net, one int) []int {
	f := zero(n)
	for i, a := range n.Arcs {
		if next(one) == 0 {
			f[i] = next(a.Cap + 1)
		}
	}
	return f
}

// noFlows returns lists that are no flows of a network with arcs.
func noFlows(n api.Net) [][]int {
	good, last := zero(n), len(n.Arcs)-1
	out := [][]int{nil, {}, good[:last], append(slices.Clone(good), 0), slices.Repeat(good, 2), make([]int, 1000)}
	for _, place := range []int{0, last / 2, last} {
		for _, k := range []int{-1, least, n.Arcs[place].Cap + 1, twenty + 1, 1 << 32, most} {
			f := slices.Clone(good)
			f[place] = k
			out = append(out, f)
		}
	}
	return out
}

// numbersAround returns numbers that may be nodes, and ones that are none.
func numbersAround(nodes int) []int {
	return []int{0, nodes - 1, nodes / 2, -1, nodes, nodes + 1, -nodes, 50, 51, 1 << 32, -1 << 32, most, least}
}

// wrongSpans returns horizons that may not be, and the errors that they have.
func wrongSpans() map[int]api.Errno {
	return map[int]api.Errno{
		-1: api.ErrArg, -2: api.ErrArg, -1024: api.ErrArg, -1025: api.ErrArg, -1 << 32: api.ErrArg, least + 1: api.ErrArg, least: api.ErrArg,
		1025: api.ErrLimit, 1026: api.ErrLimit, 2048: api.ErrLimit, 1 << 32: api.ErrLimit, most - 1: api.ErrLimit, most: api.ErrLimit,
	}
}

// Q1 to Q4 for many networks.

func TestManyTrips(t *testing.T) {
	next := numbers(171)
	var k seen
	for _, x := range trips() {
		k.testMax(t, x)
		best, _, _ := span.Best(x.Net, x.s, x.sink, x.last)
		k.testRepeat(t, x, best)
		for range 3 {
			k.testRepeat(t, x, anyFlow(next, x))
			k.testStairs(t, x, anyFlow(next, x))
		}
		for _, one := range []int{20, 200} {
			k.testStairs(t, x, anyLoad(next, x.Net, one))
		}
		k.testStairs(t, x, zero(x.Net))
		k.testRepeat(t, x, zero(x.Net))
		// From the other end, the flow leads back in less than no time.
		x.s, x.sink = x.sink, x.s
		k.testStairs(t, x, best)
	}
	if k.repeated < 120 || k.beyond < 90 || k.cycles < 300 || k.stairs < 1500 || k.early < 50 || k.negative < 300 || k.more < 50 || k.nothing < 150 || k.wider < 150 || k.onward < 15 {
		t.Errorf("only %+v", k)
	}
}

func TestManySmallTrips(t *testing.T) {
	next := numbers(172)
	var k seen
	for range 4000 {
		x := anyTrip(next, near(next, 2+next(6), 1+next(14), 1+next(6), 1+next(5)), next(12))
		k.testMax(t, x)
		f := anyFlow(next, x)
		k.testRepeat(t, x, f)
		k.testStairs(t, x, f)
		k.testStairs(t, x, anyLoad(next, x.Net, 1+next(5)))
	}
	if k.repeated < 600 || k.beyond < 80 || k.cycles < 900 || k.stairs < 8000 || k.early < 180 || k.negative < 1500 || k.more < 900 || k.nothing < 2000 || k.wider < 700 || k.onward < 100 {
		t.Errorf("only %+v", k)
	}
}

func TestStairsByAllPaths(t *testing.T) {
	// The two plain ways of working out the times agree.
	next := numbers(173)
	var k seen
	onward := 0
	for range 4000 {
		x := anyTrip(next, near(next, 2+next(4), 1+next(7), 2, 1+next(6)), next(9))
		f := anyLoad(next, x.Net, 1+next(4))
		k.testStairs(t, x, f)
		times, ok := timesByPaths(x, f)
		again, same := timesAnew(x, f)
		if ok != same || ok && !slices.Equal(times, again) {
			t.Errorf("%v of %v: %v %v, %v %v", f, x, times, ok, again, same)
		}
		if !ok {
			isStairsRefused(t, x, f, api.ErrCycle)
			if _, _, err := cost.Far(x.Net, f, x.s); err == api.OK {
				onward++
			}
		}
	}
	if k.stairs < 2500 || k.early < 130 || k.negative < 500 || onward < 200 {
		t.Errorf("only %+v, %d with the arc that is appended", k, onward)
	}
}

func TestSmallNets(t *testing.T) {
	// All networks of two arcs between three nodes, with all flows.
	var arcs []api.Arc
	for place := range 27 {
		arcs = append(arcs, arc(place%3, place/3%3, 1+place%2, place/9))
	}
	var k seen
	count := 0
	products(arcs, 2, func(l []api.Arc) {
		for _, x := range []trip{{api.Net{Nodes: 3, Arcs: l}, 0, 1, count % 4}, {api.Net{Nodes: 3, Hold: true, Arcs: l}, 0, 2, 1 + count%3}} {
			k.testMax(t, x)
			allFlows(x.Net, func(f []int) {
				k.testRepeat(t, x, f)
				k.testStairs(t, x, f)
				count++
			})
		}
	})
	if count < 8000 || k.repeated < 450 || k.beyond < 150 || k.cycles < 1500 || k.stairs < 6000 || k.early < 1000 || k.negative < 1500 || k.more < 180 || k.nothing < 900 {
		t.Errorf("only %d: %+v", count, k)
	}
}

func TestGreatestOfAllPlans(t *testing.T) {
	next := numbers(174)
	some, plans := 0, 0
	for range 1500 {
		x := anyTrip(next, near(next, 2+next(3), 1+next(4), 2, 1+next(3)), next(4))
		if len(x.Arcs)*(x.last+1) > 10 {
			continue
		}
		value, count := mostOfAllPlans(x)
		isMax(t, x, value)
		plans += count
		if value > 0 {
			some++
		}
	}
	if some < 140 || plans < 5000 {
		t.Errorf("only %d with a value, %d plans", some, plans)
	}
}

func TestAsMuchAsInTheExpandedNetwork(t *testing.T) {
	next := numbers(175)
	some, none := 0, 0
	test := func(x trip) {
		want, err := timeflow.Most(x.Net, x.s, x.sink, x.last)
		if err != api.OK {
			t.Fatalf("P1: %v: %d", x, err)
		}
		isMax(t, x, want)
		if want > 0 {
			some++
		} else {
			none++
		}
	}
	for _, x := range trips() {
		if expand.Fits(x.Net, x.last) {
			test(x)
		}
	}
	for range 600 {
		test(anyTrip(next, near(next, 2+next(8), 5+next(30), 1+next(9), 1+next(5)), 5+next(20)))
	}
	if some < 300 || none < 100 {
		t.Errorf("only %d with a value, %d without", some, none)
	}
}

func TestTurnedNets(t *testing.T) {
	// DOC.md's P1: the value is the same where all arcs are turned round.
	some := 0
	for _, x := range trips() {
		want, _ := span.Most(x.Net, x.s, x.sink, x.last)
		y := trip{api.Net{Nodes: x.Nodes, Hold: !x.Hold, Arcs: table.Turn(x.Arcs)}, x.sink, x.s, x.last}
		isMax(t, y, want)
		if want > 0 {
			some++
		}
	}
	if some < 45 {
		t.Errorf("only %d with a value", some)
	}
}

// Q1: when a chain begins.

func TestEachPointOfTimeAtWhichAChainCanBegin(t *testing.T) {
	for nodes := 2; nodes <= 6; nodes++ {
		for time := range 4 {
			length := time * (nodes - 1)
			for last := range length + 7 {
				x := along(nodes, 5, time, last)
				var want []api.Move
				for at := range last + 1 {
					for i := range x.Arcs {
						if begin := at - i*time; begin >= 0 && begin <= last-length {
							want = append(want, move(i, at, 3))
						}
					}
				}
				isRepeated(t, x, same(x.Net, 3), want...)
				isPlan(t, x, want, 3*max(0, last+1-length))
			}
		}
	}
}

func TestChainsThatTakeJustTheHorizon(t *testing.T) {
	for _, last := range []int{0, 1, 2, 7, 500, 1023, longest} {
		for there := range min(last, 3) + 1 {
			x := from(3, last, arc(0, 1, 4, there), arc(1, 2, 4, last-there))
			isRepeated(t, x, []int{4, 4}, move(0, 0, 4), move(1, there, 4))
			isMax(t, x, 4)
			// One more is too long, one less is once more.
			x.Arcs[1].Time++
			isRepeated(t, x, []int{4, 4})
			isMax(t, x, 0)
			if x.Arcs[1].Time -= 2; x.Arcs[1].Time >= 0 {
				l := []api.Move{move(0, 0, 3), move(1, there, 3), move(0, 1, 3), move(1, 1+there, 3)}
				l, _ = table.Moves(l)
				isRepeated(t, x, []int{3, 3}, l...)
				isMax(t, x, 8)
			}
		}
	}
}

func TestChainsThatTakeNoTime(t *testing.T) {
	for _, last := range []int{0, 1, 9, longest} {
		for _, nodes := range []int{2, 3, 9} {
			x := along(nodes, 7, 0, last)
			var want []api.Move
			for at := range last + 1 {
				for i := range nodes - 1 {
					want = append(want, move(i, at, 6))
				}
			}
			isRepeated(t, x, same(x.Net, 6), want...)
			isMax(t, x, 7*(last+1))
		}
	}
}

func TestOnlyTheChainsThatFit(t *testing.T) {
	// Chains of 2, 5 and 9.
	x := from(4, 0, arc(0, 1, 1, 1), arc(1, 3, 1, 1), arc(0, 2, 2, 3), arc(2, 3, 2, 2), arc(0, 3, 4, 9))
	f := full(x.Net)
	for last := range 12 {
		x.last = last
		value := 1*max(0, last+1-2) + 2*max(0, last+1-5) + 4*max(0, last+1-9)
		l, err := Repeat(x.Net, x.s, x.sink, f, last)
		if err != api.OK {
			t.Errorf("Q1: %v: %d", x, err)
		}
		isPlan(t, x, l, value)
		isMax(t, x, value)
	}
	x.last = 1
	isRepeated(t, x, f)
	x.last = 2
	isRepeated(t, x, f, move(0, 0, 1), move(1, 1, 1))
	x.last = 5
	isRepeated(t, x, f, move(0, 0, 1), move(2, 0, 2), move(0, 1, 1), move(1, 1, 1), move(0, 2, 1), move(1, 2, 1), move(0, 3, 1), move(1, 3, 1), move(3, 3, 2), move(1, 4, 1))
}

func TestCyclesAreNotRepeated(t *testing.T) {
	// 1-2-1, 3-3, and one through both ends.
	x := from(4, 4, arc(0, 1, 3, 1), arc(1, 2, 5, 0), arc(2, 1, 2, 0), arc(2, 3, 3, 2), arc(3, 3, 9, 0), arc(3, 0, 9, 1), arc(0, 3, 1, 4))
	want := []api.Move{move(0, 0, 3), move(6, 0, 1), move(0, 1, 3), move(1, 1, 3), move(3, 1, 3), move(1, 2, 3), move(3, 2, 3)}
	isRepeated(t, x, []int{3, 3, 0, 3, 0, 0, 1}, want...)
	isRepeated(t, x, []int{3, 5, 2, 3, 9, 0, 1}, want...)
	// With 1 back from 3, the cycle 0-1-2-3-0 is found first.
	isRepeated(t, x, []int{3, 5, 2, 3, 9, 1, 1}, move(0, 0, 2), move(6, 0, 1), move(0, 1, 2), move(1, 1, 2), move(3, 1, 2), move(1, 2, 2), move(3, 2, 2))
	// Nothing but cycles.
	isRepeated(t, x, []int{0, 2, 2, 0, 9, 0, 0})
	isRepeated(t, x, []int{1, 1, 0, 1, 0, 1, 0})
	isRepeated(t, x, []int{0, 0, 0, 0, 1, 1, 1})
	isMax(t, x, 7)
}

func TestMovementsThatMeet(t *testing.T) {
	// Two chains of the same length to 2, and on from there together.
	x := from(4, 5, arc(0, 1, 2, 1), arc(1, 2, 2, 1), arc(0, 2, 3, 2), arc(2, 3, 5, 1))
	var l []api.Move
	for at := range 3 {
		l = append(l, move(0, at, 2), move(2, at, 3), move(1, at+1, 2), move(3, at+2, 5))
	}
	want, _ := table.Moves(l)
	isRepeated(t, x, full(x.Net), want...)
	if len(want) != len(l) {
		t.Errorf("C7: %v", want)
	}
	// Of two lengths, each chain begins as often as it can: 2 enters at 2 and 3, and 3
	// at 4 as well.
	x = from(3, 5, arc(0, 1, 2, 2), arc(0, 1, 3, 1), arc(1, 2, 5, 1))
	isRepeated(t, x, full(x.Net), move(0, 0, 2), move(1, 0, 3), move(0, 1, 2), move(1, 1, 3), move(2, 1, 3), move(0, 2, 2), move(1, 2, 3), move(2, 2, 5), move(1, 3, 3), move(2, 3, 5), move(2, 4, 5))
	// What meets at an arc is never more than its flow.
	for _, arcs := range []int{1, 2, 99, 198} {
		x = from(3, 3, append(slices.Repeat([]api.Arc{arc(0, 1, 1+arcs%3, 1)}, arcs), arc(1, 2, twenty, 1))...)
		f := append(same(x.Net, 1)[1:], arcs)
		l, err := Repeat(x.Net, 0, 2, f, 3)
		if !slices.Contains(l, move(arcs, 1, arcs)) || !slices.Contains(l, move(arcs, 2, arcs)) || len(l) != 2*arcs+2 || err != api.OK {
			t.Errorf("Q1: %v %d", l, err)
		}
	}
}

func TestSumsThatDoNotFit(t *testing.T) {
	// A flow has no such chains; those that had them would be refused.
	n := line(3, 1, 1)
	for _, chains := range [][]api.Chain{
		{chain(most, 0, 1), chain(1, 0, 1)}, {chain(1, 1), chain(most, 1)}, {chain(1<<62, 0), chain(1<<62, 0, 1)}, {chain(least, 1), chain(-1, 0, 1)},
		{chain(5, 0, 1), chain(most, 0), chain(1, 0), chain(3, 1)},
	} {
		if l, err := movements(n, chains, 9); len(l) != 0 || err != api.ErrOver {
			t.Errorf("Q1: %v: %v %d", chains, l, err)
		}
		// None of them is begun.
		if l, err := movements(n, chains, 0); len(l) != 0 || err != api.OK {
			t.Errorf("Q1: %v: %v %d", chains, l, err)
		}
	}
	if l, err := movements(n, []api.Chain{chain(most, 0), chain(5, 0), chain(-5, 0), chain(3, 1), chain(-3, 1)}, 1); !slices.Equal(l, []api.Move{move(0, 0, most)}) || err != api.OK {
		t.Errorf("Q1: %v %d", l, err)
	}
	// The greatest sums that a flow has fit by far.
	x := from(3, longest, arc(0, 1, twenty, 0), arc(0, 1, twenty, 1), arc(1, 2, twenty, 0), arc(1, 2, twenty, 1))
	isMax(t, x, twenty*(1025+1023))
	l, err := Repeat(x.Net, 0, 2, full(x.Net), longest)
	isPlan(t, x, l, twenty*(1025+1023))
	if err != api.OK {
		t.Errorf("Q1: %d", err)
	}
}

// Errors.

func TestErrorsOfCheckComeFirst(t *testing.T) {
	right := api.Arc{To: 1, Cap: 3, Time: 4}
	wrong := api.Arc{From: 2, To: 1}
	great := api.Arc{To: 1, Time: twenty + 1}
	for _, c := range []struct {
		nodes int
		arcs  []api.Arc
		want  api.Errno
	}{
		{0, nil, api.ErrNet}, {-1, nil, api.ErrNet}, {least, nil, api.ErrNet}, {0, []api.Arc{great}, api.ErrNet}, {0, someArcs(201), api.ErrNet},
		{51, nil, api.ErrLimit}, {most, nil, api.ErrLimit}, {51, []api.Arc{wrong}, api.ErrLimit},
		{1, someArcs(201), api.ErrLimit}, {50, someArcs(5000), api.ErrLimit}, {2, append([]api.Arc{wrong}, someArcs(200)...), api.ErrLimit},
		{2, []api.Arc{{From: -1}}, api.ErrNet}, {2, []api.Arc{{From: 2}}, api.ErrNet}, {2, []api.Arc{{From: least}}, api.ErrNet},
		{2, []api.Arc{{To: -1}}, api.ErrNet}, {2, []api.Arc{{To: 2}}, api.ErrNet}, {2, []api.Arc{{To: most}}, api.ErrNet},
		{2, []api.Arc{{Cap: -1}}, api.ErrNet}, {2, []api.Arc{{Time: -1}}, api.ErrNet}, {2, []api.Arc{{To: 1, Time: least}}, api.ErrNet},
		{2, []api.Arc{{Cap: twenty + 1}}, api.ErrLimit}, {2, []api.Arc{{Time: twenty + 1}}, api.ErrLimit}, {2, []api.Arc{{To: 1, Cap: most}}, api.ErrLimit},
		{2, []api.Arc{right, wrong, great}, api.ErrNet}, {2, []api.Arc{right, great, wrong}, api.ErrLimit},
		{2, append(someArcs(199), wrong), api.ErrNet}, {2, append(someArcs(199), great), api.ErrLimit},
	} {
		x := trip{Net: api.Net{Nodes: c.nodes, Arcs: c.arcs}}
		for _, x.s = range numbersAround(c.nodes) {
			for _, x.sink = range []int{0, 1, c.nodes - 1, c.nodes, -1, most, x.s} {
				for _, x.last = range []int{0, 5, longest, -1, longest + 1, most, least} {
					areRefused(t, x, c.want)
				}
			}
		}
	}
}

func TestEnds(t *testing.T) {
	good, bad := 0, 0
	var k seen
	for _, n := range []api.Net{{Nodes: 2}, line(2, 3, 1), {Nodes: 3, Arcs: someArcs(200)}, line(7, 2, 2), line(49, 3, 1), line(50, twenty, 0), {Nodes: 50, Arcs: someArcs(200)}} {
		x := trip{Net: n}
		for _, x.s = range numbersAround(n.Nodes) {
			for _, x.sink = range append(numbersAround(n.Nodes), x.s) {
				if x.last = 20; tripError(x) == api.OK {
					k.testMax(t, x)
					k.testRepeat(t, x, zero(n))
					k.testStairs(t, x, zero(n))
					good++
					continue
				}
				// ErrEnds comes ahead of what is wrong with the horizon.
				for _, x.last = range []int{0, 20, longest, -1, longest + 1, most, least} {
					areRefused(t, x, api.ErrEnds)
				}
				bad++
			}
		}
	}
	if good < 30 || bad < 500 || k.more < 5 {
		t.Errorf("only %d ends that are right, and %d others: %+v", good, bad, k)
	}
	for nodes := 1; nodes <= 50; nodes++ {
		x := trip{Net: line(nodes, 1, 1), last: 9}
		for node := -2; node <= nodes+1; node++ {
			for _, ends := range [][2]int{{node, node}, {node, -1}, {-1, node}, {nodes, node}, {node, nodes}} {
				x.s, x.sink = ends[0], ends[1]
				areRefused(t, x, api.ErrEnds)
			}
		}
	}
}

func TestHorizonsThatMayNotBe(t *testing.T) {
	for _, n := range []api.Net{{Nodes: 2}, line(2, 3, 1), line(7, 2, 2), line(50, twenty, 0), {Nodes: 50, Arcs: someArcs(200)}} {
		for last, want := range wrongSpans() {
			areRefused(t, trip{n, 0, n.Nodes - 1, last}, want)
			areRefused(t, trip{n, 1, 0, last}, want)
		}
	}
}

func TestHorizonsAtTheEdges(t *testing.T) {
	for _, time := range []int{0, 1, 2, 1023, 1024, 1025, twenty} {
		for _, last := range []int{0, 1, 2, 1022, 1023, longest} {
			x := along(2, 3, time, last)
			begins := max(0, last+1-time)
			isMax(t, x, 3*begins)
			var want []api.Move
			for at := range begins {
				want = append(want, move(0, at, 2))
			}
			isRepeated(t, x, []int{2}, want...)
			// 1 is reached just in time, or else never.
			areStairsFrom(t, x, []int{0}, 0, time)
			if time <= last+1 {
				areStairsFrom(t, x, []int{3}, 0, never)
			} else {
				isStairsRefused(t, x, []int{3}, api.ErrCycle)
			}
		}
	}
}

func TestWhatIsNoFlow(t *testing.T) {
	for _, n := range []api.Net{
		line(2, 0, 5), line(2, 5, 0), line(50, twenty, 3), {Nodes: 2, Arcs: someArcs(200)},
		{Nodes: 3, Arcs: []api.Arc{arc(0, 1, 2, 1), {From: 1, To: 2, Time: 3}, arc(2, 2, 7, 0)}},
	} {
		for _, f := range noFlows(n) {
			for _, last := range []int{0, 1, 500, longest} {
				for _, x := range []trip{{n, 0, n.Nodes - 1, last}, {n, n.Nodes - 1, 0, last}} {
					isRepeatRefused(t, x, f, api.ErrFlow)
					isStairsRefused(t, x, f, api.ErrFlow)
				}
			}
			// At Repeat it comes behind what is wrong with the ends and the horizon, and
			// at Stairs ahead of that.
			for last, want := range wrongSpans() {
				isRepeatRefused(t, trip{n, 0, n.Nodes - 1, last}, f, want)
				isStairsRefused(t, trip{n, 0, n.Nodes - 1, last}, f, api.ErrFlow)
			}
			for _, x := range []trip{{n, 0, 0, 5}, {n, -1, 1, 5}, {n, 0, n.Nodes, -1}, {n, most, least, most}} {
				isRepeatRefused(t, x, f, api.ErrEnds)
				isStairsRefused(t, x, f, api.ErrFlow)
			}
		}
	}
	for _, nodes := range []int{2, 50} {
		x := trip{api.Net{Nodes: nodes}, 0, 1, 5}
		isRepeatRefused(t, x, []int{0}, api.ErrFlow)
		isStairsRefused(t, x, []int{0}, api.ErrFlow)
		isRepeated(t, x, nil)
		isRepeated(t, x, []int{})
		areStairsFrom(t, x, nil, 0)
		areStairsFrom(t, x, []int{}, 0)
	}
}

func TestFlowsThatAreNotBalanced(t *testing.T) {
	n := line(4, 5, 1)
	for _, f := range [][]int{{2, 1, 1}, {1, 2, 2}, {1, 1, 0}, {0, 0, 1}, {0, 3, 0}, {5, 4, 5}} {
		for _, last := range []int{0, 1, 3, 9, longest} {
			for _, x := range []trip{{n, 0, 3, last}, {n, 3, 0, last}} {
				isRepeatRefused(t, x, f, api.ErrFlow)
			}
		}
		for last, want := range wrongSpans() {
			isRepeatRefused(t, trip{n, 0, 3, last}, f, want)
			isStairsRefused(t, trip{n, 0, 3, last}, f, want)
		}
		isRepeatRefused(t, trip{n, 0, 4, 1025}, f, api.ErrEnds)
		isStairsRefused(t, trip{n, 0, 4, 1025}, f, api.ErrEnds)
	}
	// Between other ends, some of them are balanced.
	isRepeated(t, trip{n, 1, 2, 2}, []int{0, 3, 0}, move(1, 0, 3), move(1, 1, 3))
	isRepeated(t, trip{n, 2, 3, 1}, []int{0, 0, 1}, move(2, 0, 1))
	isRepeated(t, trip{n, 0, 2, 2}, []int{1, 1, 0}, move(0, 0, 1), move(1, 1, 1))
	// Stairs need no balance: from 0 on, with room, or back.
	areStairsFrom(t, trip{n, 0, 3, 9}, []int{2, 1, 1}, 0, 1, 2, 3)
	areStairsFrom(t, trip{n, 0, 3, 9}, []int{2, 5, 1}, 0, 1, 9, 3+7)
	areStairsFrom(t, trip{n, 0, 3, 9}, []int{5, 5, 5}, 0, 8, 9, 10)
	areStairsFrom(t, trip{n, 0, 3, 9}, []int{5, 5, 0}, 0, never, never, never)
	areStairsFrom(t, trip{n, 3, 0, 9}, []int{5, 4, 0}, never, never, never, 0)
	areStairsFrom(t, trip{n, 2, 0, 9}, []int{0, 4, 0}, 10, -1, 0, 1)
}

func TestValueBelowZero(t *testing.T) {
	n := line(3, 5, 2)
	for k := range 6 {
		for _, last := range []int{0, 1, 3, 4, 5, 50} {
			x := trip{n, 2, 0, last}
			// From the other end, the same flow has a value below 0.
			if k > 0 {
				isRepeatRefused(t, x, []int{k, k}, api.ErrFlow)
			} else {
				isRepeated(t, x, []int{0, 0})
			}
			// The steps back make a way that takes less than no time.
			if k > 0 {
				areStairsFrom(t, x, []int{k, k}, -4, -2, 0)
			}
			for last, want := range wrongSpans() {
				x.last = last
				isRepeatRefused(t, x, []int{k, k}, want)
				isStairsRefused(t, x, []int{k, k}, want)
			}
		}
	}
	// Forth and back: the value is 1, 0 and -1.
	both := from(2, 12, arc(0, 1, 3, 11), arc(1, 0, 3, 1))
	isRepeated(t, both, []int{3, 2}, move(0, 0, 1), move(0, 1, 1))
	isRepeated(t, both, []int{2, 2})
	isRepeatRefused(t, both, []int{2, 3}, api.ErrFlow)
	both.s, both.sink, both.last = 1, 0, 1
	isRepeated(t, both, []int{2, 3}, move(1, 0, 1))
}

func TestOrderOfErrors(t *testing.T) {
	// All that can be wrong at once, and then less and less of it.
	wrong := api.Net{Nodes: 3, Arcs: []api.Arc{arc(0, 1, 3, 1), arc(1, 3, 3, 1)}}
	right := api.Net{Nodes: 3, Arcs: []api.Arc{arc(0, 1, 3, 1), arc(1, 2, 3, 1), arc(1, 1, 3, 1)}}
	for _, c := range []struct {
		x              trip
		f              []int
		repeat, stairs api.Errno
	}{
		{trip{wrong, 0, 0, -1}, []int{4, 0}, api.ErrNet, api.ErrNet},
		{trip{wrong, 0, 2, 5}, []int{0, 0}, api.ErrNet, api.ErrNet},
		{trip{right, 0, 0, -1}, []int{4, 0, 0}, api.ErrEnds, api.ErrFlow},
		{trip{right, 0, 0, 1025}, []int{0, 0}, api.ErrEnds, api.ErrFlow},
		{trip{right, 0, 2, -1}, []int{4, 0, 0}, api.ErrArg, api.ErrFlow},
		{trip{right, 0, 2, 1025}, []int{4, 0, 0}, api.ErrLimit, api.ErrFlow},
		{trip{right, 0, 2, 5}, []int{4, 0, 0}, api.ErrFlow, api.ErrFlow},
		{trip{right, 0, 0, -1}, []int{0, 0, 3}, api.ErrEnds, api.ErrEnds},
		{trip{right, 0, 3, 1025}, []int{1, 0, 3}, api.ErrEnds, api.ErrEnds},
		{trip{right, -1, 2, 5}, []int{0, 0, 3}, api.ErrEnds, api.ErrEnds},
		{trip{right, 0, 2, -1}, []int{1, 0, 3}, api.ErrArg, api.ErrArg},
		{trip{right, 0, 2, 1025}, []int{0, 0, 3}, api.ErrLimit, api.ErrLimit},
		{trip{right, 0, 2, 5}, []int{1, 0, 3}, api.ErrFlow, api.ErrCycle},
		{trip{right, 2, 0, 5}, []int{1, 1, 3}, api.ErrFlow, api.ErrCycle},
	} {
		isRepeatRefused(t, c.x, c.f, c.repeat)
		isStairsRefused(t, c.x, c.f, c.stairs)
		isMaxRefused(t, trip{wrong, c.x.s, c.x.sink, c.x.last}, api.ErrNet)
		if err := tripError(c.x); err != api.OK {
			isMaxRefused(t, c.x, err)
		}
	}
	x := trip{right, 0, 2, 5}
	isMax(t, x, 12)
	isRepeated(t, x, []int{0, 0, 3})
	isStairsRefused(t, x, []int{0, 0, 3}, api.ErrCycle)
}

// Q3: which slots there are.

func TestStairsAreInOrder(t *testing.T) {
	x := from(5, 3, arc(0, 4, 9, 2), arc(0, 2, 9, 1), arc(2, 3, 9, 1), arc(3, 1, 9, 1))
	areStairs(t, x, zero(x.Net), slot(0, 0), slot(0, 1), slot(2, 1), slot(0, 2), slot(2, 2), slot(3, 2), slot(4, 2), slot(0, 3), slot(1, 3), slot(2, 3), slot(3, 3), slot(4, 3))
	x.s, x.sink = 3, 0
	areStairs(t, x, zero(x.Net), slot(3, 0), slot(1, 1), slot(3, 1), slot(1, 2), slot(3, 2), slot(1, 3), slot(3, 3))
	for _, y := range trips() {
		f, _, _ := span.Best(y.Net, y.s, y.sink, y.last)
		l, err := Stairs(y.Net, y.s, y.sink, f, y.last)
		if sorted := table.Slots(l); !slices.Equal(l, sorted) || err != api.OK {
			t.Errorf("Q3: %v of %v: %v %d", f, y, l, err)
		}
	}
}

func TestTheSourceIsAmongThemFromZeroOnAndTheSinkNever(t *testing.T) {
	for _, x := range trips() {
		f, _, _ := span.Best(x.Net, x.s, x.sink, x.last)
		l, err := Stairs(x.Net, x.s, x.sink, f, x.last)
		for at := range x.last + 1 {
			if !slices.Contains(l, slot(x.s, at)) || slices.Contains(l, slot(x.sink, at)) || err != api.OK {
				t.Fatalf("Q3: %v of %v: at %d: %v %d", f, x, at, l, err)
			}
		}
	}
	// In other flows, the sink may be among them, as soon as it is reached.
	x := along(3, 2, 1, 4)
	areStairsFrom(t, x, []int{0, 0}, 0, 1, 2)
	areStairsFrom(t, x, []int{1, 1}, 0, 1, 2)
	areStairsFrom(t, x, []int{2, 2}, 0, 4, never)
}

func TestNodesThatAreNotReached(t *testing.T) {
	x := from(6, 30, arc(0, 1, 5, 2), arc(2, 1, 5, 0), arc(1, 3, 0, 0), arc(1, 4, 5, 3), arc(4, 4, 5, 0))
	areStairsFrom(t, x, zero(x.Net), 0, 2, never, never, 5, never)
	// A step back has room only where there is a flow.
	areStairsFrom(t, x, []int{0, 1, 0, 0, 0}, 0, 2, 2, never, 5, never)
	areStairsFrom(t, x, []int{5, 1, 0, 0, 0}, 0, never, never, never, never, never)
	areStairsFrom(t, x, []int{5, 1, 0, 5, 5}, 0, never, never, never, never, never)
	// From the sink on, which is reached along the arc that is appended, 1 later than
	// the horizon, only steps back lead to where one can be in time.
	x.Arcs = append(x.Arcs, arc(5, 2, 1, 0), arc(3, 5, 5, 4))
	areStairsFrom(t, x, []int{5, 0, 0, 0, 0, 0, 0}, 0, never, never, never, never, never)
	areStairsFrom(t, x, []int{5, 0, 0, 0, 0, 0, 1}, 0, never, never, 31-4, never, never)
	for nodes := 2; nodes <= 50; nodes++ {
		areStairsFrom(t, trip{api.Net{Nodes: nodes}, nodes - 1, 0, 3}, nil, append(slices.Repeat([]int{never}, nodes-1), 0)...)
	}
}

func TestNodesReachedBelowZero(t *testing.T) {
	// What comes to s on arcs with a flow is reached from it back, before 0.
	x := from(4, 3, arc(1, 0, 5, 4), arc(2, 1, 5, 2), arc(1, 2, 5, 7), arc(2, 3, 5, 8))
	areStairs(t, x, []int{2, 2, 0, 0}, slot(0, 0), slot(1, 0), slot(2, 0), slot(0, 1), slot(1, 1), slot(2, 1), slot(0, 2), slot(1, 2), slot(2, 2), slot(3, 2), slot(0, 3), slot(1, 3), slot(2, 3), slot(3, 3))
	areStairsFrom(t, x, []int{2, 2, 0, 0}, 0, -4, -6, 2)
	areStairsFrom(t, x, []int{2, 0, 0, 0}, 0, -4, 3, never)
	areStairsFrom(t, x, []int{0, 2, 0, 0}, 0)
	y := from(50, longest)
	for node := range 49 {
		y.Arcs = append(y.Arcs, arc(node+1, node, 1, twenty))
	}
	// The sink is reached back as well, so that nothing is reached by the arc that is
	// appended.
	var times []int
	for node := range 50 {
		times = append(times, -node*twenty)
	}
	areStairsFrom(t, y, full(y.Net), times...)
}

func TestNegativeCyclesThatAreReached(t *testing.T) {
	// 1-2-3-1 takes 5, and back -5.
	arcs := []api.Arc{arc(0, 1, 2, 3), arc(1, 2, 2, 1), arc(2, 3, 2, 3), arc(3, 1, 2, 1), arc(3, 4, 2, 1)}
	for _, last := range []int{0, 1, 7, longest} {
		x := from(5, last, arcs...)
		isStairsRefused(t, x, []int{0, 1, 1, 1, 0}, api.ErrCycle)
		isStairsRefused(t, x, []int{0, 2, 2, 2, 0}, api.ErrCycle)
		isStairsRefused(t, x, []int{1, 1, 1, 1, 2}, api.ErrCycle)
		// The cycle is reached only from the sink, back, and that along the arc which is
		// appended.
		isStairsRefused(t, x, []int{2, 1, 1, 1, 1}, api.ErrCycle)
		isStairsRefused(t, x, []int{2, 2, 2, 2, 1}, api.ErrCycle)
		// It is not reached.
		areStairsFrom(t, x, []int{2, 1, 1, 1, 0}, 0)
		areStairsFrom(t, x, []int{2, 2, 2, 2, 0}, 0)
		// It takes no time, or goes only forward.
		areStairsFrom(t, x, []int{0, 0, 0, 0, 0}, 0, 3, 4, 7, 8)
		x.Arcs = []api.Arc{arc(0, 1, 2, 3), arc(1, 2, 2, 0), arc(2, 3, 2, 0), arc(3, 1, 2, 0), arc(3, 4, 2, 1)}
		areStairsFrom(t, x, []int{0, 2, 1, 2, 0}, 0, 3, 3, 3, 4)
	}
	// An arc from a node to itself, which is reached, or not.
	for _, time := range []int{0, 1, twenty} {
		for node := range 4 {
			x := from(4, 9, arc(0, 1, 5, 2), arc(node, node, 5, time), arc(3, 1, 5, 1))
			for _, k := range []int{0, 1, 4, 5} {
				if f := []int{1, k, 0}; k > 0 && time > 0 && node != 2 {
					isStairsRefused(t, x, f, api.ErrCycle)
				} else {
					areStairsFrom(t, x, f, 0, 2, never, never)
				}
			}
		}
	}
}

func TestNegativeCyclesMadeByTheAppendedArc(t *testing.T) {
	// A flow along a path that takes more than 1 longer than the horizon.
	for _, time := range []int{0, 1, 2, 5, 1023, 1024, 1025, 1026, 1027, twenty} {
		for _, last := range []int{0, 1, 3, 4, 5, 1022, 1023, longest} {
			for _, x := range []trip{along(2, 2, time, last), from(3, last, arc(0, 1, 2, 0), arc(1, 2, 2, time))} {
				for k := range 2 {
					f := same(x.Net, 1+k)
					if time > last+1 {
						isStairsRefused(t, x, f, api.ErrCycle)
						continue
					}
					// The rest of the room leads on, or only the appended arc does.
					times := []int{0, 0, time}
					if k == 1 {
						times = []int{0, last + 1 - time, last + 1}
					}
					if x.Nodes == 2 {
						times = []int{0, times[2]}
					}
					areStairsFrom(t, x, f, times...)
				}
			}
		}
	}
	// Of two paths, only the slower one is too slow, and then only if it carries a flow.
	x := from(4, 5, arc(0, 1, 1, 1), arc(1, 3, 1, 2), arc(0, 2, 1, 3), arc(2, 3, 1, 4))
	areStairsFrom(t, x, []int{1, 1, 0, 0}, 0, 4, 3, 6)
	isStairsRefused(t, x, []int{0, 0, 1, 1}, api.ErrCycle)
	isStairsRefused(t, x, []int{1, 1, 1, 1}, api.ErrCycle)
	x.last = 6
	areStairsFrom(t, x, []int{1, 1, 1, 1}, 0, 5, 3, 7)
	// The cycle is made by a flow that is not even balanced, and by a way on of which
	// one step leads forward.
	x = from(4, 5, arc(0, 1, 5, 0), arc(2, 1, 5, 2), arc(2, 3, 5, 9))
	isStairsRefused(t, x, []int{1, 0, 1}, api.ErrCycle)
	x.Arcs[1].Time = 3
	areStairsFrom(t, x, []int{1, 0, 1}, 0, 0, 6-9, 6)
}

func TestAsManyArcsAsMayBe(t *testing.T) {
	// The appended arc is the 201st.
	for _, arcs := range []int{1, 198, 199, 200} {
		var k seen
		x := from(4, 7, slices.Repeat([]api.Arc{arc(0, 1, 3, 2)}, arcs)...)
		for i := range arcs {
			x.Arcs[i].To += i % 2
			if i%4 == 3 {
				x.Arcs[i] = arc(2, 3, 5, 4)
			}
		}
		areStairsFrom(t, x, full(x.Net), timesOf(x, full(x.Net))...)
		areStairsFrom(t, x, zero(x.Net), timesOf(x, zero(x.Net))...)
		k.testMax(t, x)
		x.Arcs = slices.Repeat([]api.Arc{arc(0, 3, 1, 6)}, arcs)
		areStairsFrom(t, x, full(x.Net), 0, never, never, never)
		x.last = 5
		areStairsFrom(t, x, full(x.Net), 0, never, never, never)
		x.last = 4
		isStairsRefused(t, x, full(x.Net), api.ErrCycle)
		areStairsFrom(t, x, zero(x.Net), 0, never, never, never)
	}
}

// timesOf returns what timesAnew does where there is no negative cycle.
func timesOf(x trip, f []int) []int {
	times, _ := timesAnew(x, f)
	return times
}

// Q4.

func TestRepeatingFlowsThatFit(t *testing.T) {
	next := numbers(176)
	checked, cycles := 0, 0
	for range 2000 {
		x := anyTrip(next, near(next, 2+next(8), 5+next(30), 9, 1+next(4)), 0)
		f := anyFlow(next, x)
		if repeatError(x, f) != api.OK {
			continue
		}
		chains, _, _ := decomp.Split(x.Net, x.s, x.sink, f)
		lengths, _ := decomp.Lengths(x.Net, chains)
		for _, more := range []int{0, 1, next(20)} {
			// As long as the longest chain, or longer.
			x.last = slices.Max(append(lengths, 0)) + more
			clean, _ := decomp.Clean(x.Net, x.s, x.sink, f)
			worth, err := span.Worth(x.Net, x.s, x.sink, clean, x.last)
			l, errRepeat := Repeat(x.Net, x.s, x.sink, f, x.last)
			if err != api.OK || errRepeat != api.OK {
				t.Fatalf("Q4: %v of %v: %d %d", f, x, err, errRepeat)
			}
			isPlan(t, x, l, worth)
			if greatest, _ := span.Most(x.Net, x.s, x.sink, x.last); worth > greatest {
				t.Errorf("Q4: %v of %v: %d, more than %d", f, x, worth, greatest)
			}
			if worth > 0 {
				checked++
			}
			if !slices.Equal(f, clean) {
				cycles++
			}
		}
	}
	if checked < 500 || cycles < 500 {
		t.Errorf("only %d flows, %d with cycles", checked, cycles)
	}
}

func TestNoCutHasLessAndNoPlanMore(t *testing.T) {
	// The stairs of any flow in which they are a cut have no capacity below the value
	// of Max, and what any flow repeats has no value above it.
	next := numbers(177)
	cuts, plans, wider := 0, 0, 0
	for range 3000 {
		x := anyTrip(next, near(next, 2+next(5), 3+next(12), 4, 1+next(4)), next(10))
		_, greatest, err := Max(x.Net, x.s, x.sink, x.last)
		if err != api.OK {
			t.Fatalf("Q2: %v: %d", x, err)
		}
		f := anyLoad(next, x.Net, 1+next(3))
		if l, err := Stairs(x.Net, x.s, x.sink, f, x.last); err == api.OK && isCut(x, l) {
			cuts++
			if capacity := capacityOf(x, l); capacity < greatest {
				t.Errorf("Q4: %v of %v: %v has the capacity %d, less than %d", f, x, l, capacity, greatest)
			} else if capacity > greatest {
				wider++
			}
		}
		f = anyFlow(next, x)
		if l, err := Repeat(x.Net, x.s, x.sink, f, x.last); err == api.OK && len(l) > 0 {
			plans++
			if value, err := plan.Check(x.Net, x.s, x.sink, x.last, l); value > greatest || err != api.OK {
				t.Errorf("Q4: %v of %v: %v has the value %d %d, more than %d", f, x, l, value, err, greatest)
			}
		}
	}
	if cuts < 500 || plans < 200 || wider < 50 {
		t.Errorf("only %d cuts, %d of them with more, and %d plans", cuts, wider, plans)
	}
}

func TestValues(t *testing.T) {
	for _, c := range []struct {
		x    trip
		want []int // within 0, 1, and so on
	}{
		{along(3, 2, 1, 0), []int{0, 0, 2, 4, 6, 8, 10}},
		{along(4, 3, 0, 0), []int{3, 6, 9, 12}},
		{along(3, 1, 3, 0), []int{0, 0, 0, 0, 0, 0, 1, 2, 3}},
		{from(2, 0, arc(0, 1, 1, 0), arc(0, 1, 2, 1), arc(0, 1, 4, 3)), []int{1, 4, 7, 14, 21}},
		// a Cap of 0, and of as much as may be
		{from(2, 0, arc(0, 1, 0, 0), arc(0, 1, 0, 1)), []int{0, 0, 0}},
		{from(3, 0, arc(0, 1, twenty, 0), arc(1, 2, 0, 0), arc(0, 2, twenty, 1)), []int{0, twenty, 2 * twenty}},
		// a Time of as much as may be
		{from(3, 0, arc(0, 1, 5, twenty), arc(1, 2, 5, 0), arc(0, 2, 1, 0)), []int{1, 2, 3}},
		// a cycle that takes no time, on the way
		{from(4, 0, arc(0, 1, 2, 0), arc(1, 2, 1, 0), arc(2, 1, 1, 0), arc(2, 3, 2, 0)), []int{1, 2, 3}},
		// arcs that lead to s, and that begin at t, and only such ones
		{from(3, 0, arc(1, 0, 9, 0), arc(0, 1, 2, 0), arc(2, 1, 9, 0), arc(1, 2, 3, 0), arc(2, 0, 9, 0), arc(0, 0, 9, 0), arc(2, 2, 9, 1)), []int{2, 4, 6}},
		{from(3, 0, arc(1, 0, 9, 0), arc(2, 1, 9, 0), arc(2, 0, 9, 0)), []int{0, 0, 0}},
		// arcs from a node to itself
		{from(3, 0, arc(1, 1, 9, 0), arc(0, 1, 2, 1), arc(1, 1, 9, 1), arc(1, 2, 1, 0), arc(2, 2, 3, 0)), []int{0, 1, 2, 3}},
		// a fast way that is narrow, and a slow one that is wide
		{from(4, 0, arc(0, 1, 1, 0), arc(1, 3, 5, 1), arc(0, 2, 3, 2), arc(2, 3, 2, 2), arc(2, 1, 4, 0)), []int{0, 1, 2, 6, 10, 14}},
		// the fastest path, 0-1-2-3, is in the way of two others
		{from(4, 0, arc(0, 1, 1, 1), arc(1, 2, 1, 1), arc(2, 3, 1, 1), arc(0, 2, 1, 4), arc(1, 3, 1, 5)), []int{0, 0, 0, 1, 2, 3, 4, 5, 7, 9, 11, 13}},
	} {
		var k seen
		for c.x.last = range c.want {
			for _, c.x.Hold = range []bool{true, false} {
				isMax(t, c.x, c.want[c.x.last])
				k.testMax(t, c.x)
			}
		}
	}
}

func TestTheFastestPathIsPushedBack(t *testing.T) {
	// 0-1-2-3 takes 3; the two others, in its stead, take 5 and 6.
	x := from(4, 6, arc(0, 1, 1, 1), arc(1, 2, 1, 1), arc(2, 3, 1, 1), arc(0, 2, 1, 4), arc(1, 3, 1, 5))
	for _, c := range []struct {
		last  int
		stair []int
	}{{2, []int{0, 1, 2, 3}}, {3, []int{0, 2, 3, 4}}, {6, []int{0, 5, 4, 7}}, {7, []int{0, 5, 4, 8}}, {8, []int{0, 4, 5, 9}}, {20, []int{0, 16, 17, 21}}} {
		x.last = c.last
		f, _, _ := span.Best(x.Net, 0, 3, x.last)
		areStairsFrom(t, x, f, timesOf(x, f)...)
		if c.last < 4 {
			areStairsFrom(t, x, f, c.stair...)
		}
		if c.last >= 8 && !slices.Equal(f, []int{1, 0, 1, 1, 1}) {
			t.Errorf("L3: %v within %d", f, c.last)
		}
	}
	x.last = 8
	// Both others, each one as often as it can: 0-2-3 takes 5, 0-1-3 takes 6.
	var l []api.Move
	for at := range 4 {
		l = append(l, move(3, at, 1), move(2, at+4, 1))
	}
	for at := range 3 {
		l = append(l, move(0, at, 1), move(4, at+1, 1))
	}
	want, _ := table.Moves(l)
	isRepeated(t, x, []int{1, 0, 1, 1, 1}, want...)
	if got := isMax(t, x, 7); !slices.Equal(got, want) {
		t.Errorf("Q2: %v, want %v", got, want)
	}
}

func TestNothingArrives(t *testing.T) {
	for _, x := range []trip{
		from(2, 0), from(2, longest), from(50, 79), from(3, 5, arc(0, 1, 5, 0)), from(3, 5, arc(1, 2, 5, 0)), from(2, 5, arc(0, 1, 5, 6)),
		from(2, 5, arc(1, 0, 5, 0)), from(3, 5, arc(0, 1, 5, 3), arc(1, 2, 5, 3)), from(3, 5, arc(0, 1, 0, 0), arc(1, 2, 5, 0)),
		from(4, 5, arc(1, 2, 5, 0), arc(2, 1, 5, 0)), from(4, 9, arc(1, 2, 5, 1), arc(2, 1, 5, 1), arc(1, 1, 5, 0), arc(0, 0, 5, 0), arc(3, 3, 5, 0)),
		along(11, 3, 1, 9), along(2, twenty, twenty, longest),
	} {
		var k seen
		isMax(t, x, 0)
		k.testMax(t, x)
		isRepeated(t, x, zero(x.Net))
		for _, hold := range []bool{true, false} {
			x.Hold = hold
			if l, k, err := Max(x.Net, x.s, x.sink, x.last); len(l) != 0 || k != 0 || err != api.OK {
				t.Errorf("Q2: %v: %v %d %d", x, l, k, err)
			}
		}
	}
}

// Edges.

func TestOneNode(t *testing.T) {
	for _, n := range []api.Net{{Nodes: 1}, {Nodes: 1, Arcs: []api.Arc{}}, {Nodes: 1, Arcs: someArcs(200)}} {
		for _, s := range []int{0, 1, -1, most, least} {
			for _, last := range []int{0, longest, -1, 1025} {
				areRefused(t, trip{n, s, 0, last}, api.ErrEnds)
				areRefused(t, trip{n, 0, s, last}, api.ErrEnds)
				areRefused(t, trip{n, s, s, last}, api.ErrEnds)
			}
		}
	}
}

func TestArcsThatLeadToTheSourceOrBeginAtTheSink(t *testing.T) {
	// Both on the way of the flow, and beside it.
	x := from(4, 6, arc(0, 1, 5, 1), arc(1, 0, 5, 1), arc(1, 3, 5, 1), arc(3, 2, 5, 1), arc(2, 3, 5, 1), arc(3, 0, 5, 1), arc(2, 0, 5, 2), arc(3, 1, 5, 0))
	isMax(t, x, 25)
	var want []api.Move
	for at := range 7 {
		if at < 5 {
			want = append(want, move(0, at, 2))
		}
		if at > 0 && at < 6 {
			want = append(want, move(2, at, 2))
		}
	}
	for _, f := range [][]int{{2, 0, 2, 0, 0, 0, 0, 0}, {3, 1, 2, 0, 0, 0, 0, 0}, {2, 0, 2, 3, 3, 0, 0, 0}, {2, 0, 5, 0, 0, 0, 0, 3}, {3, 0, 3, 0, 0, 1, 0, 0}, {4, 0, 4, 2, 0, 0, 2, 0}} {
		isRepeated(t, x, f, want...)
	}
	isRepeatRefused(t, x, []int{0, 0, 0, 0, 0, 1, 0, 0}, api.ErrFlow)
	// s is the end of a way with a flow, which is gone back from it.
	areStairsFrom(t, x, []int{0, 1, 0, 0, 0, 0, 0, 0}, 0, -1, 1, 0)
	areStairsFrom(t, x, []int{0, 0, 0, 0, 0, 0, 4, 0}, 0, -1, -2, -1)
	areStairsFrom(t, x, []int{5, 0, 5, 0, 0, 0, 0, 0}, 0, 6, 8, 7)
}

func TestSeveralArcsBetweenTheSameNodes(t *testing.T) {
	x := from(2, 6, arc(0, 1, 3, 6), arc(0, 1, 2, 4), arc(1, 0, 5, 3), arc(0, 1, 0, 0), arc(0, 1, 2, 4), arc(1, 0, 1, 0), arc(0, 1, 1, 5))
	for last, want := range []int{0, 0, 0, 0, 4, 9, 17, 25} {
		x.last = last
		isMax(t, x, want)
	}
	x.last = 5
	isRepeated(t, x, []int{3, 2, 0, 0, 1, 0, 1}, move(1, 0, 2), move(4, 0, 1), move(6, 0, 1), move(1, 1, 2), move(4, 1, 1))
	areStairsFrom(t, x, []int{0, 2, 0, 0, 1, 0, 0}, 0, 4)
	areStairsFrom(t, x, []int{0, 2, 0, 0, 2, 0, 0}, 0, 5)
	areStairsFrom(t, x, []int{3, 2, 0, 0, 2, 0, 1}, 0, 6)
	x.last = 4
	isStairsRefused(t, x, []int{3, 2, 0, 0, 2, 0, 1}, api.ErrCycle)
	areStairsFrom(t, x, []int{0, 2, 0, 0, 2, 0, 1}, 0, 5)
}

func TestCapsAtTheEdges(t *testing.T) {
	for _, width := range []int{0, 1, 2, 7, twenty - 1, twenty} {
		for _, nodes := range []int{2, 3, 50} {
			length := 2 * (nodes - 1)
			for _, last := range []int{length - 1, length, length + 1, length + 3} {
				x := along(nodes, width, 2, last)
				var k seen
				isMax(t, x, width*(last+1-length))
				k.testMax(t, x)
				k.testRepeat(t, x, full(x.Net))
				// One arc alone decides, wherever it stands.
				x = along(nodes, twenty, 2, last)
				x.Arcs[(nodes-1)/2].Cap = width
				isMax(t, x, width*(last+1-length))
				k.testRepeat(t, x, same(x.Net, width))
			}
		}
		areRefused(t, along(2, twenty+1, 0, 5), api.ErrLimit)
		areRefused(t, along(2, -1, 0, 5), api.ErrNet)
	}
}

func TestTimesAtTheEdges(t *testing.T) {
	for _, time := range []int{0, 1, 512, 513, 1024, 1025, twenty - 1, twenty} {
		for _, last := range []int{0, 1, 2, 1023, longest} {
			x := along(3, 3, time, last)
			var k seen
			isMax(t, x, 3*max(0, last+1-2*time))
			k.testMax(t, x)
			k.testRepeat(t, x, []int{3, 3})
			k.testStairs(t, x, []int{3, 3})
			k.testStairs(t, x, []int{1, 1})
			areStairsFrom(t, x, []int{0, 0}, 0, time, 2*time)
		}
	}
	areRefused(t, along(2, 1, twenty+1, 5), api.ErrLimit)
	areRefused(t, along(2, 1, -1, 5), api.ErrNet)
}

func TestTheGreatestPlans(t *testing.T) {
	x := from(2, longest, slices.Repeat([]api.Arc{arc(0, 1, twenty, 0)}, 200)...)
	isMax(t, x, 200*twenty*1025)
	x = from(3, longest, append(slices.Repeat([]api.Arc{arc(0, 1, twenty, 1)}, 100), slices.Repeat([]api.Arc{arc(1, 2, twenty, 2)}, 100)...)...)
	isMax(t, x, 100*twenty*1022)
	// As many chains as may be through as many nodes as may be.
	n := api.Net{Nodes: 50}
	for node := range 49 {
		for i := range 4 {
			n.Arcs = append(n.Arcs, arc(node, node+1, 1<<10+node*37%101*(i-1)+i, i))
		}
	}
	var k seen
	for _, last := range []int{0, 1, 30, 160} {
		k.testMax(t, trip{n, 0, 49, last})
	}
	if k.more != 4 {
		t.Errorf("%+v", k)
	}
}

func TestHoldMakesNoDifference(t *testing.T) {
	next := numbers(178)
	for _, x := range trips() {
		f := anyFlow(next, x)
		x.Hold = false
		l, k, _ := Max(x.Net, x.s, x.sink, x.last)
		m, err := Repeat(x.Net, x.s, x.sink, f, x.last)
		c, errStairs := Stairs(x.Net, x.s, x.sink, f, x.last)
		x.Hold = true
		lHeld, kHeld, _ := Max(x.Net, x.s, x.sink, x.last)
		mHeld, errHeld := Repeat(x.Net, x.s, x.sink, f, x.last)
		cHeld, errStairsHeld := Stairs(x.Net, x.s, x.sink, f, x.last)
		if !slices.Equal(l, lHeld) || k != kHeld || !slices.Equal(m, mHeld) || err != errHeld || !slices.Equal(c, cHeld) || errStairs != errStairsHeld {
			t.Errorf("Q1 to Q3: Hold makes a difference to %v of %v", f, x)
		}
	}
}

// R3, R4.

func TestArgumentsStay(t *testing.T) {
	next := numbers(179)
	wrong := []trip{{}, {Net: api.Net{Nodes: 51, Arcs: someArcs(3)}}, {Net: api.Net{Nodes: 2, Arcs: []api.Arc{{To: 1}, {To: 2}, {Cap: twenty + 1}}}, sink: 1}, along(3, 2, 1, -1), along(3, 2, 1, longest+1)}
	for i, x := range append(wrong, trips()...) {
		flows := [][]int{zero(x.Net), full(x.Net), {-1, 3}}
		if i >= len(wrong) {
			flows = append(flows, anyFlow(next, x), anyLoad(next, x.Net, 9))
		}
		for _, f := range flows {
			arcs, flow := slices.Clone(x.Arcs), slices.Clone(f)
			// One less than what is given, and all that is given.
			for _, less := range []int{1, 0} {
				n := x.Net
				n.Arcs = x.Arcs[:max(0, len(x.Arcs)-less)]
				g := f[:max(0, len(f)-less)]
				Repeat(n, x.s, x.sink, g, x.last)
				Max(n, x.s, x.sink, x.last)
				Stairs(n, x.s, x.sink, g, x.last)
			}
			if !slices.Equal(x.Arcs, arcs) || !slices.Equal(f, flow) {
				t.Fatalf("R3: %v %v became %v %v", arcs, flow, x.Arcs, f)
			}
		}
	}
}

func TestResultsAreApart(t *testing.T) {
	x := along(3, 4, 1, 3)
	f := []int{4, 4}
	for range 3 {
		isMax(t, x, 8)
		isRepeated(t, x, f, move(0, 0, 4), move(0, 1, 4), move(1, 1, 4), move(1, 2, 4))
		areStairsFrom(t, x, f, 0, 3, 4)
		l, _, _ := Max(x.Net, x.s, x.sink, x.last)
		m, _ := Repeat(x.Net, x.s, x.sink, f, x.last)
		c, _ := Stairs(x.Net, x.s, x.sink, f, x.last)
		for _, moves := range [][]api.Move{l[:cap(l)], m[:cap(m)]} {
			for i := range moves {
				moves[i] = move(77, 77, 77)
			}
		}
		for i := range c[:cap(c)] {
			c[:cap(c)][i] = slot(77, 77)
		}
		if !slices.Equal(x.Arcs, line(3, 4, 1).Arcs) || !slices.Equal(f, []int{4, 4}) {
			t.Fatalf("R3: a change of the results made the arguments %v %v", x.Arcs, f)
		}
	}
}

func TestEarlierCallsMakeNoDifference(t *testing.T) {
	next := numbers(180)
	for i, x := range trips() {
		if i%3 > 0 {
			continue
		}
		f := anyFlow(next, x)
		l, k, _ := Max(x.Net, x.s, x.sink, x.last)
		m, err := Repeat(x.Net, x.s, x.sink, f, x.last)
		c, errStairs := Stairs(x.Net, x.s, x.sink, f, x.last)
		areRefused(t, trip{Net: api.Net{Nodes: 51}}, api.ErrLimit)
		isMax(t, along(5, 3, 0, 2), 9)
		lAgain, kAgain, _ := Max(x.Net, x.s, x.sink, x.last)
		mAgain, errAgain := Repeat(x.Net, x.s, x.sink, f, x.last)
		cAgain, errStairsAgain := Stairs(x.Net, x.s, x.sink, f, x.last)
		if !slices.Equal(l, lAgain) || k != kAgain || !slices.Equal(m, mAgain) || err != errAgain || !slices.Equal(c, cAgain) || errStairs != errStairsAgain {
			t.Errorf("R4: %v of %v", f, x)
		}
	}
}

// Ways: a chain is started by a function that is called again and again.

func TestStartedRepeatedly(t *testing.T) {
	for length := range 12 {
		for last := range 9 {
			var begun []int
			repeatedly(func(at int) { begun = append(begun, at) }, length, last)
			var want []int
			for at := 0; at+length <= last; at++ {
				want = append(want, at)
			}
			if !slices.Equal(begun, want) {
				t.Errorf("Ways: what takes %d within %d begins at %v, want %v", length, last, begun, want)
			}
		}
	}
	repeatedly(func(at int) { t.Errorf("Ways: begun at %d", at) }, 50*twenty, longest)
}

func TestExamples(t *testing.T) {
	x := along(3, 2, 1, 3)
	isRepeated(t, x, []int{1, 1}, move(0, 0, 1), move(0, 1, 1), move(1, 1, 1), move(1, 2, 1))
	x.last = 2
	areStairs(t, x, []int{2, 2}, slot(0, 0), slot(0, 1), slot(0, 2), slot(1, 2))
	// DOC.md's: within 5 the amount is 8, what leaves at 0, 1, 2 and 3.
	x.last = 5
	want := []api.Move{move(0, 0, 2), move(0, 1, 2), move(1, 1, 2), move(0, 2, 2), move(1, 2, 2), move(0, 3, 2), move(1, 3, 2), move(1, 4, 2)}
	if l := isMax(t, x, 8); !slices.Equal(l, want) {
		t.Errorf("Q2: %v, want %v", l, want)
	}
	for last, want := range []int{0, 0, 2, 4, 6} {
		x.last = last
		isMax(t, x, want)
	}
}
