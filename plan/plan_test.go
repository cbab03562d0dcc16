package plan

import (
	"math"
	"math/big"
	"reflect"
	"slices"
	"testing"

	"ebbtide/api"
	"ebbtide/static"
	"ebbtide/table"
)

const (
	most  = math.MaxInt64
	least = math.MinInt64
	// twenty is what an arc's Cap and Time may be at most.
	twenty = 1048576
	// longest is the greatest horizon.
	longest = 1024
)

// numbers returns a function that returns one number after the other, the same
// ones in each run.
func numbers(seed uint64) func(below int) int {
	return func(below int) int {
		seed = seed*6364136223846793005 + 1442695040888963407
		return int(seed>>33) % below
	}
}

// arc returns an arc.
func arc(from, to, width, time int) api.Arc {
	return api.Arc{From: from, To: to, Cap: width, Time: time}
}

// move returns a movement of so much.
func move(place, at, amount int) api.Move {
	return api.Move{Arc: place, At: at, N: amount}
}

// trip is a network, its ends, a horizon, and movements.
type trip struct {
	api.Net
	s, sink, last int
	moves         []api.Move
}

// with returns the trip with other movements.
func (x trip) with(moves ...api.Move) trip {
	x.moves = moves
	return x
}

// The plain ways of working out what the chapter asks for, each by another
// method than the package's. The networks that they are given are right.

// sumsAnew returns the sum of the amounts for each arc and point of time, of any
// size.
func sumsAnew(l []api.Move) map[[2]int]*big.Int {
	sums := map[[2]int]*big.Int{}
	for _, x := range l {
		k := [2]int{x.Arc, x.At}
		if sums[k] == nil {
			sums[k] = big.NewInt(0)
		}
		sums[k].Add(sums[k], big.NewInt(int64(x.N)))
	}
	return sums
}

// isInside reports whether a number is from 0 to another one.
func isInside(n, last *big.Int) bool {
	return n.Sign() >= 0 && n.Cmp(last) <= 0
}

// isValidAnew reports whether so much may enter an arc at a point of time.
func isValidAnew(x trip, place, at int, amount *big.Int) bool {
	if place < 0 || place >= len(x.Arcs) || x.Arcs[place].To == x.s || x.Arcs[place].From == x.sink {
		return false
	}
	a, begin := x.Arcs[place], big.NewInt(int64(at))
	end := new(big.Int).Add(begin, big.NewInt(int64(a.Time)))
	return begin.Sign() >= 0 && end.Cmp(big.NewInt(int64(x.last))) <= 0 && isInside(amount, big.NewInt(int64(a.Cap)))
}

// errorAnew returns the error that Stocks returns.
func errorAnew(x trip) api.Errno {
	switch {
	case x.s < 0 || x.sink < 0 || x.s >= x.Nodes || x.sink >= x.Nodes || x.s == x.sink:
		return api.ErrEnds
	case x.last < 0:
		return api.ErrArg
	case x.last > longest:
		return api.ErrLimit
	}
	sums := sumsAnew(x.moves)
	for _, k := range sums {
		if !k.IsInt64() {
			return api.ErrOver
		}
	}
	for k, amount := range sums {
		if amount.Sign() != 0 && !isValidAnew(x, k[0], k[1], amount) {
			return api.ErrMove
		}
	}
	return api.OK
}

// stocksAnew returns the stocks: each movement, as it is, changes those of two
// nodes. What does not fit has fitted again when all are there.
func stocksAnew(x trip) [][]int {
	stocks := make([][]int, x.last+1)
	for at := range stocks {
		stocks[at] = make([]int, x.Nodes)
	}
	for _, m := range x.moves {
		if m.Arc < 0 || m.Arc >= len(x.Arcs) || m.At < 0 || m.At > x.last {
			continue
		}
		a := x.Arcs[m.Arc]
		stocks[m.At][a.From] -= m.N
		if m.At+a.Time <= x.last {
			stocks[m.At+a.Time][a.To] += m.N
		}
	}
	for at := range x.last {
		for node := range x.Nodes {
			stocks[at+1][node] += stocks[at][node]
		}
	}
	return stocks
}

// stockByWords returns a node's stock at a point of time, as the chapter's words
// have it.
func stockByWords(x trip, node, at int) int {
	arrived, entered := 0, 0
	for _, m := range x.moves {
		if x.Arcs[m.Arc].To == node && m.At+x.Arcs[m.Arc].Time <= at {
			arrived += m.N
		}
		if x.Arcs[m.Arc].From == node && m.At <= at {
			entered += m.N
		}
	}
	return arrived - entered
}

// isPlanAnew reports whether the stocks are those of a plan.
func isPlanAnew(x trip, stocks [][]int, hold bool) bool {
	for node := range x.Nodes {
		if node == x.s || node == x.sink {
			continue
		}
		line := columnOf(stocks, node)
		if slices.Min(line) < 0 || line[x.last] != 0 || !hold && slices.Max(line) != 0 {
			return false
		}
	}
	return true
}

// columnOf returns a node's stock at each point of time.
func columnOf(stocks [][]int, node int) []int {
	var out []int
	for _, row := range stocks {
		out = append(out, row[node])
	}
	return out
}

// products calls do with each list that has so many of the items.
func products[T any](items []T, length int, do func(l []T)) {
	l := make([]T, length)
	var fill func(place int)
	fill = func(place int) {
		if place == length {
			do(l)
			return
		}
		for _, x := range items {
			l[place] = x
			fill(place + 1)
		}
	}
	fill(0)
}

// ascending calls do with each list of so many of the numbers below that many, in
// ascending order.
func ascending(below, length int, do func(l []int)) {
	items := make([]int, below)
	for i := range items {
		items[i] = i
	}
	products(items, length, func(l []int) {
		if slices.IsSorted(l) {
			do(l)
		}
	})
}

// orders returns the movements in each order.
func orders(l []api.Move) [][]api.Move {
	if len(l) == 0 {
		return [][]api.Move{nil}
	}
	var out [][]api.Move
	for i, x := range l {
		for _, others := range orders(slices.Delete(slices.Clone(l), i, i+1)) {
			out = append(out, append([]api.Move{x}, others...))
		}
	}
	return out
}

// What fails unless a call answers as the chapter asks.

// areRows reports whether two lists have the same rows.
func areRows(l, m [][]int) bool {
	return slices.EqualFunc(l, m, slices.Equal)
}

// isRefused fails unless all calls return the error and nothing else, if nodes may
// keep what arrives and if not.
func isRefused(t *testing.T, x trip, want api.Errno) {
	t.Helper()
	for _, x.Hold = range []bool{true, false} {
		if stocks, err := Stocks(x.Net, x.s, x.sink, x.last, x.moves); len(stocks) != 0 || err != want {
			t.Errorf("N1: %d nodes, %d arcs, from %d to %d within %d, %v: %v %d, want %d", x.Nodes, len(x.Arcs), x.s, x.sink, x.last, x.moves, stocks, err, want)
		}
		testPlan(t, x, nil, want)
		testStill(t, x, false, want)
	}
}

// testPlan fails unless Check and Arrived return that.
func testPlan(t *testing.T, x trip, want []int, wantErr api.Errno) {
	t.Helper()
	arrived, err := Arrived(x.Net, x.s, x.sink, x.last, x.moves)
	if !slices.Equal(arrived, want) || err != wantErr {
		t.Errorf("N3: %d nodes, %d arcs, from %d to %d within %d, %v: %v %d, want %v %d", x.Nodes, len(x.Arcs), x.s, x.sink, x.last, x.moves, arrived, err, want, wantErr)
	}
	value, err := Check(x.Net, x.s, x.sink, x.last, x.moves)
	if wantValue := append([]int{0}, want...)[len(want)]; value != wantValue || err != wantErr {
		t.Errorf("N2: %d nodes, %d arcs, from %d to %d within %d, %v: %d %d, want %d %d", x.Nodes, len(x.Arcs), x.s, x.sink, x.last, x.moves, value, err, wantValue, wantErr)
	}
}

// testStill fails unless Still returns that.
func testStill(t *testing.T, x trip, want bool, wantErr api.Errno) {
	t.Helper()
	if is, err := Still(x.Net, x.s, x.sink, x.last, x.moves); is != want || err != wantErr {
		t.Errorf("N4: %d nodes, %d arcs, from %d to %d within %d, %v: %v %d, want %v %d", x.Nodes, len(x.Arcs), x.s, x.sink, x.last, x.moves, is, err, want, wantErr)
	}
}

// testStocks fails unless Stocks returns that.
func testStocks(t *testing.T, x trip, want [][]int) {
	t.Helper()
	if stocks, err := Stocks(x.Net, x.s, x.sink, x.last, x.moves); !areRows(stocks, want) || err != api.OK {
		t.Errorf("N1: %d nodes, %d arcs, from %d to %d within %d, %v: %v %d, want %v", x.Nodes, len(x.Arcs), x.s, x.sink, x.last, x.moves, stocks, err, want)
	}
}

// seen counts what has been seen of trips.
type seen struct {
	over, moves, wrong, held, still, value int
}

// isEnough fails unless enough of each kind has been seen.
func (k seen) isEnough(t *testing.T, enough int) {
	t.Helper()
	for i, count := range []int{k.moves, k.wrong, k.held, k.still, k.value} {
		if count < enough {
			t.Errorf("only %d of kind %d: %+v", count, i, k)
		}
	}
}

// hold holds all calls against N1 to N4, if nodes may keep what arrives and if not,
// for a network that is right, and counts what they answer.
func (k *seen) hold(t *testing.T, x trip) {
	t.Helper()
	if err := errorAnew(x); err != api.OK {
		isRefused(t, x, err)
		switch err {
		case api.ErrOver:
			k.over++
		case api.ErrMove:
			k.moves++
		}
		return
	}
	stocks := stocksAnew(x)
	arrived := columnOf(stocks, x.sink)
	ifHeld, ifFree := isPlanAnew(x, stocks, true), isPlanAnew(x, stocks, false)
	for _, x.Hold = range []bool{true, false} {
		testStocks(t, x, stocks)
		if x.Hold && ifHeld || ifFree {
			testPlan(t, x, arrived, api.OK)
		} else {
			testPlan(t, x, nil, api.ErrStock)
		}
		if ifHeld {
			testStill(t, x, ifFree, api.OK)
		} else {
			testStill(t, x, false, api.ErrStock)
		}
	}
	k.count(ifHeld, ifFree, arrived[x.last])
}

// count counts a trip whose movements are valid.
func (k *seen) count(ifHeld, ifFree bool, value int) {
	switch {
	case ifFree:
		k.still++
	case ifHeld:
		k.held++
	default:
		k.wrong++
	}
	if ifHeld && value > 0 {
		k.value++
	}
}

// testTrip holds all calls against N1 to N4 for a network that is right.
func testTrip(t *testing.T, x trip) {
	t.Helper()
	new(seen).hold(t, x)
}

// isStill fails unless the movements are a plan, by which that has arrived, even if
// nodes may keep nothing.
func isStill(t *testing.T, x trip, arrived ...int) {
	t.Helper()
	testTrip(t, x)
	for _, x.Hold = range []bool{true, false} {
		testPlan(t, x, arrived, api.OK)
		testStill(t, x, true, api.OK)
	}
}

// isHeld fails unless the movements are a plan, by which that has arrived, only if
// nodes may keep what arrives.
func isHeld(t *testing.T, x trip, arrived ...int) {
	t.Helper()
	testTrip(t, x)
	for _, x.Hold = range []bool{true, false} {
		testStill(t, x, false, api.OK)
	}
	testPlan(t, x, nil, api.ErrStock)
	x.Hold = true
	testPlan(t, x, arrived, api.OK)
}

// isNoPlan fails unless the movements are valid, but no plan.
func isNoPlan(t *testing.T, x trip) {
	t.Helper()
	testTrip(t, x)
	for _, x.Hold = range []bool{true, false} {
		testPlan(t, x, nil, api.ErrStock)
		testStill(t, x, false, api.ErrStock)
	}
}

// is fails unless Stocks, Check, Arrived and Still return what they are said to, or
// an error and nothing else.
func (x trip) is(t *testing.T, want api.Errno, arrived ...int) {
	t.Helper()
	switch want {
	case api.OK:
		isStill(t, x, arrived...)
	case api.ErrStock:
		isNoPlan(t, x)
	default:
		testTrip(t, x)
		isRefused(t, x, want)
	}
}

// Networks and movements to hold the calls against.

// someArcs returns so many arcs from 0 to itself.
func someArcs(n int) []api.Arc {
	l := make([]api.Arc, n)
	for i := range l {
		l[i] = api.Arc{Cap: i, Time: 2 * i}
	}
	return l
}

// line returns a network whose arcs lead from each node to the one after it.
func line(nodes, width, time int) api.Net {
	n := api.Net{Nodes: nodes}
	for node := 1; node < nodes; node++ {
		n.Arcs = append(n.Arcs, arc(node-1, node, width, time))
	}
	return n
}

// along returns the trip through a line, from its first node to its last one.
func along(nodes, width, time, last int) trip {
	return trip{Net: line(nodes, width, time), sink: nodes - 1, last: last}
}

// zeros returns that many zeros.
func zeros(n int) []int {
	return make([]int, n)
}

// from returns what has arrived at each point of time if so much arrives at one.
func from(first, last, amount int) []int {
	return append(zeros(first), slices.Repeat([]int{amount}, last+1-first)...)
}

// plus returns the sums of the numbers of two lists.
func plus(l, m []int) []int {
	out := slices.Clone(l)
	for i, k := range m {
		out[i] += k
	}
	return out
}

// later returns the movements, each so much later.
func later(l []api.Move, time int) []api.Move {
	var out []api.Move
	for _, x := range l {
		out = append(out, move(x.Arc, x.At+time, x.N))
	}
	return out
}

// shuffled returns the items in any order.
func shuffled[T any](next func(below int) int, l []T) []T {
	out := slices.Clone(l)
	for i := range out {
		j := next(i + 1)
		out[i], out[j] = out[j], out[i]
	}
	return out
}

// pieces returns movements that are merged to those given: each in parts, one of
// which may be below 0.
func pieces(next func(below int) int, l []api.Move) []api.Move {
	var out []api.Move
	for _, x := range l {
		part := next(2*x.N+5) - 2
		out = append(out, move(x.Arc, x.At, part), move(x.Arc, x.At, x.N-part))
		if next(3) == 0 {
			out = append(out, move(x.Arc, x.At, most), move(next(300)-50, next(3000)-1500, 0), move(x.Arc, x.At, -most))
		}
	}
	return shuffled(next, out)
}

// stroll returns movements of so much from s to the sink, from any point of time
// on, or none if they are not there in time. Where they may wait, they do now and
// then.
func stroll(next func(below int) int, x trip, amount int, wait bool) []api.Move {
	node, at := x.s, next(x.last+1)/2
	var l []api.Move
	for range 4 * x.Nodes {
		var open []int
		for i, a := range x.Arcs {
			if a.From == node && a.To != x.s && at+a.Time <= x.last {
				open = append(open, i)
			}
		}
		if len(open) == 0 {
			return nil
		}
		i := open[next(len(open))]
		l = append(l, move(i, at, amount))
		if at, node = at+x.Arcs[i].Time, x.Arcs[i].To; node == x.sink {
			return l
		}
		if wait && next(3) == 0 {
			at = min(x.last, at+next(4))
		}
	}
	return nil
}

// weave returns a trip of so many strolls through a network, each arc of which has
// a Cap for what enters it.
func weave(next func(below int) int, n api.Net, last, strolls int, wait bool) trip {
	x := trip{Net: n, s: next(n.Nodes), last: last}
	x.sink = (x.s + 1 + next(n.Nodes-1)) % n.Nodes
	for range strolls {
		x.moves = append(x.moves, stroll(next, x, 1+next(5), wait)...)
	}
	sums := sumsAnew(x.moves)
	x.Arcs = slices.Clone(n.Arcs)
	for place := range x.Arcs {
		x.Arcs[place].Cap = next(3)
	}
	for k, sum := range sums {
		x.Arcs[k[0]].Cap = max(x.Arcs[k[0]].Cap, int(sum.Int64()))
	}
	x.moves = shuffled(next, x.moves)
	return x
}

// mixed returns a network of that many nodes and arcs, which lead to any nodes, or
// to near ones.
func mixed(next func(below int) int, nodes, arcs int, times []int) api.Net {
	n := api.Net{Nodes: nodes, Hold: next(2) == 0}
	for i := range arcs {
		to := next(nodes)
		from := next(nodes)
		if i%3 == 0 {
			to = min(from+1, nodes-1)
		}
		n.Arcs = append(n.Arcs, arc(from, to, 0, times[next(len(times))]))
	}
	return n
}

// weaves returns trips that are plans, the smallest and the greatest among them.
func weaves() []trip {
	next := numbers(14)
	var out []trip
	for _, wait := range []bool{false, true} {
		for nodes := 2; nodes <= 50; nodes += 1 + next(3) {
			for _, times := range [][]int{{0}, {1}, {0, 1, 2}, {1, 3, 7, twenty}} {
				n := mixed(next, nodes, min(200, nodes*(1+next(6))), times)
				out = append(out, weave(next, n, next(60), 1+next(12), wait), weave(next, n, next(8), 1+next(9), wait))
			}
		}
		for _, nodes := range []int{2, 5, 50} {
			n := mixed(next, nodes, 200, []int{0, 1, 2, 50, longest, twenty})
			out = append(out, weave(next, n, 0, 30, wait), weave(next, n, 1, 30, wait))
		}
	}
	return out
}

// longWeaves returns trips that are plans within the greatest horizons.
func longWeaves() []trip {
	next := numbers(15)
	var out []trip
	for _, nodes := range []int{2, 5, 50} {
		for i := range 4 {
			n := mixed(next, nodes, 50+i*50, []int{0, 1, 2, 50, longest, twenty})
			out = append(out, weave(next, n, longest-i%2, 30, i > 1))
		}
	}
	return out
}

// changes returns the trip with its movements changed, each list in another way.
func changes(next func(below int) int, x trip) [][]api.Move {
	out := [][]api.Move{nil}
	for range min(len(x.moves), 2) {
		i := next(len(x.moves))
		m := x.moves[i]
		for _, y := range []api.Move{
			move(m.Arc, m.At+1, m.N), move(m.Arc, m.At-1, m.N), move(m.Arc, m.At, m.N+1), move(m.Arc, m.At, m.N-1),
			move(next(len(x.Arcs)), m.At, m.N), move(m.Arc, next(x.last+1), m.N), move(m.Arc, m.At, -m.N),
		} {
			l := slices.Clone(x.moves)
			l[i] = y
			out = append(out, l, append(l, m, move(m.Arc, m.At, -m.N)))
		}
		out = append(out, slices.Delete(slices.Clone(x.moves), i, i+1), append(slices.Clone(x.moves), m))
	}
	return out
}

// numbersAround returns numbers that may be nodes, and ones that are none.
func numbersAround(nodes int) []int {
	return []int{0, nodes - 1, nodes / 2, -1, nodes, nodes + 1, -nodes, 50, 51, 1 << 32, -1 << 32, most, least}
}

// wrongMoves returns movements whose sums do not fit, or that are not valid.
func wrongMoves() [][]api.Move {
	return [][]api.Move{
		{move(0, 0, most), move(0, 0, 1)}, {move(0, 0, least), move(0, 0, -1)}, {move(-1, 0, 1)}, {move(200, 0, 1)},
		{move(0, -1, 1)}, {move(0, most, 1)}, {move(0, 0, -1)}, {move(0, 0, twenty+1)},
	}
}

// N1 to N4 for many networks.

func TestManyTrips(t *testing.T) {
	next := numbers(141)
	var k seen
	for _, x := range longWeaves() {
		k.hold(t, x)
	}
	for _, x := range weaves() {
		k.hold(t, x)
		for _, l := range changes(next, x) {
			k.hold(t, x.with(l...))
		}
		for _, last := range []int{x.last - 1, x.last / 2, x.last + 1, min(longest, 2*x.last)} {
			x.last = last
			k.hold(t, x)
		}
	}
	k.isEnough(t, 200)
}

func TestSmallNetsWithTwoArcs(t *testing.T) {
	var arcs []api.Arc
	for place := range 18 {
		arcs = append(arcs, arc(place%3, place/3%3, 1, place/9))
	}
	var k seen
	products(arcs, 2, func(l []api.Arc) {
		x := trip{Net: api.Net{Nodes: 3, Arcs: l}, sink: 2, last: 2}
		for bits := range 1 << 6 {
			x.moves = nil
			for i := range 6 {
				if bits>>i&1 == 1 {
					x.moves = append(x.moves, move(i%2, i/2, 1))
				}
			}
			k.hold(t, x)
		}
	})
	k.isEnough(t, 10)
}

func TestSmallNetsWithThreeArcs(t *testing.T) {
	var arcs []api.Arc
	for place := range 8 {
		arcs = append(arcs, arc(place%2, 1+place/2%2, 1, place/4))
	}
	var k seen
	ascending(len(arcs), 3, func(l []int) {
		n := api.Net{Nodes: 3, Arcs: []api.Arc{arcs[l[0]], arcs[l[1]], arcs[l[2]]}}
		x := trip{Net: n, sink: 2, last: 2}
		for bits := range 1 << 9 {
			x.moves = nil
			for i := range 9 {
				if bits>>i&1 == 1 {
					x.moves = append(x.moves, move(i%3, i/3, 1))
				}
			}
			k.hold(t, x)
		}
	})
	k.isEnough(t, 200)
}

func TestSmallAmounts(t *testing.T) {
	// Amounts below 0 and above the Cap, the same entry twice.
	var k seen
	x := trip{Net: api.Net{Nodes: 3, Arcs: []api.Arc{arc(0, 1, 2, 0), arc(1, 2, 1, 1)}}, sink: 2, last: 2}
	products([]int{-1, 0, 1, 2}, 6, func(l []int) {
		k.hold(t, x.with(move(0, 0, l[0]), move(1, 0, l[1]), move(0, 1, l[2]), move(1, 1, l[3]), move(0, 0, l[4]), move(1, 1, l[5])))
	})
	k.isEnough(t, 10)
}

func TestStocksByTheWords(t *testing.T) {
	count := 0
	for _, x := range weaves() {
		if x.last > 60 || len(x.moves) > 60 || x.Nodes > 30 {
			continue
		}
		stocks, err := Stocks(x.Net, x.s, x.sink, x.last, x.moves)
		if len(stocks) != x.last+1 || err != api.OK {
			t.Fatalf("N1: %v: %v %d", x, stocks, err)
		}
		for at, row := range stocks {
			if len(row) != x.Nodes {
				t.Fatalf("N1: %v: %v", x, stocks)
			}
			for node, stock := range row {
				if want := stockByWords(x, node, at); stock != want {
					t.Fatalf("N1: %v: node %d at %d has %d, want %d", x, node, at, stock, want)
				}
			}
		}
		count++
	}
	if count < 100 {
		t.Errorf("only %d trips", count)
	}
}

// Errors.

func TestErrorsOfCheckComeFirst(t *testing.T) {
	right := api.Arc{To: 1, Cap: 3, Time: 4}
	wrong := api.Arc{From: 2, To: 1}
	great := api.Arc{To: 1, Time: twenty + 1}
	for _, c := range []struct {
		nodes int
		arcs  []api.Arc
		want  api.Errno
	}{
		{0, nil, api.ErrNet}, {-1, nil, api.ErrNet}, {least, nil, api.ErrNet}, {0, []api.Arc{great}, api.ErrNet}, {0, someArcs(201), api.ErrNet},
		{51, nil, api.ErrLimit}, {most, nil, api.ErrLimit}, {51, []api.Arc{wrong}, api.ErrLimit},
		{1, someArcs(201), api.ErrLimit}, {50, someArcs(5000), api.ErrLimit}, {2, append([]api.Arc{wrong}, someArcs(200)...), api.ErrLimit},
		{2, []api.Arc{{From: -1}}, api.ErrNet}, {2, []api.Arc{{From: 2}}, api.ErrNet}, {2, []api.Arc{{From: least}}, api.ErrNet},
		{2, []api.Arc{{To: -1}}, api.ErrNet}, {2, []api.Arc{{To: 2}}, api.ErrNet}, {2, []api.Arc{{To: most}}, api.ErrNet},
		{2, []api.Arc{{Cap: -1}}, api.ErrNet}, {2, []api.Arc{{Time: -1}}, api.ErrNet}, {2, []api.Arc{{To: 1, Time: least}}, api.ErrNet},
		{2, []api.Arc{{Cap: twenty + 1}}, api.ErrLimit}, {2, []api.Arc{{Time: twenty + 1}}, api.ErrLimit}, {2, []api.Arc{{To: 1, Cap: most}}, api.ErrLimit},
		{2, []api.Arc{right, wrong, great}, api.ErrNet}, {2, []api.Arc{right, great, wrong}, api.ErrLimit},
		{2, append(someArcs(199), wrong), api.ErrNet}, {2, append(someArcs(199), great), api.ErrLimit},
	} {
		x := trip{Net: api.Net{Nodes: c.nodes, Arcs: c.arcs}}
		for _, x.s = range numbersAround(c.nodes) {
			for _, x.sink = range []int{0, 1, c.nodes - 1, -1, x.s} {
				for _, x.last = range []int{0, 5, -1, longest + 1, most} {
					for _, x.moves = range append(wrongMoves(), nil) {
						isRefused(t, x, c.want)
					}
				}
			}
		}
	}
}

func TestEnds(t *testing.T) {
	good, bad := 0, 0
	for _, n := range []api.Net{{Nodes: 2}, line(2, 3, 1), {Nodes: 3, Arcs: someArcs(200)}, line(7, 2, 0), line(49, 3, 1), line(50, twenty, 0), {Nodes: 50, Arcs: someArcs(200)}} {
		x := trip{Net: n, last: 2}
		for _, x.s = range numbersAround(n.Nodes) {
			for _, x.sink = range append(numbersAround(n.Nodes), x.s) {
				x.last, x.moves = 2, nil
				if x.s >= 0 && x.s < n.Nodes && x.sink >= 0 && x.sink < n.Nodes && x.s != x.sink {
					isStill(t, x, 0, 0, 0)
					good++
					continue
				}
				// ErrEnds comes ahead of what is wrong with the horizon and the movements.
				for _, x.last = range []int{2, 0, -1, least, longest, longest + 1, most} {
					for _, x.moves = range append(wrongMoves(), nil) {
						x.is(t, api.ErrEnds)
					}
				}
				bad++
			}
		}
	}
	if good < 30 || bad < 500 {
		t.Errorf("only %d ends that are right, and %d others", good, bad)
	}
}

func TestEndsOfAllSizes(t *testing.T) {
	for nodes := 1; nodes <= 50; nodes++ {
		x := trip{Net: line(nodes, 1, 1), last: 3}
		for node := -2; node <= nodes+1; node++ {
			for _, ends := range [][2]int{{node, node}, {node, -1}, {-1, node}, {nodes, node}, {node, nodes}} {
				x.s, x.sink = ends[0], ends[1]
				isRefused(t, x, api.ErrEnds)
			}
			if x.s, x.sink = node, nodes-1; node >= 0 && node < nodes-1 {
				isStill(t, x, 0, 0, 0, 0)
			}
		}
	}
}

func TestHorizons(t *testing.T) {
	x := along(3, 2, 0, 0)
	both := []api.Move{move(0, 0, 2), move(1, 0, 2)}
	for _, l := range append(wrongMoves(), nil, both) {
		for _, x.last = range []int{-1, -2, -longest, -1 << 32, least, least + 1} {
			x.with(l...).is(t, api.ErrArg)
		}
		for _, x.last = range []int{longest + 1, longest + 2, 1 << 20, 1 << 32, most, most - 1} {
			x.with(l...).is(t, api.ErrLimit)
		}
	}
	for _, x.last = range []int{0, 1, 2, longest - 1, longest} {
		x.with().is(t, api.OK, zeros(x.last+1)...)
		x.with(both...).is(t, api.OK, from(0, x.last, 2)...)
		x.with(later(both, x.last)...).is(t, api.OK, from(x.last, x.last, 2)...)
		x.with(later(both, x.last+1)...).is(t, api.ErrMove)
		stocks, err := Stocks(x.Net, 0, 2, x.last, both)
		if len(stocks) != x.last+1 || len(stocks[0]) != 3 || !slices.Equal(stocks[x.last], []int{-2, 0, 2}) || err != api.OK {
			t.Errorf("N1: %d rows, %d", len(stocks), err)
		}
	}
}

func TestSumsThatDoNotFit(t *testing.T) {
	x := along(3, 5, 1, 4)
	// What else there is: nothing, what is right, what is not valid, and what does
	// not fit either.
	others := [][]api.Move{nil, {move(0, 1, 2), move(1, 2, 2)}, {move(1, 1, -1)}, {move(0, -1, 1)}, {move(3, 0, 1)}, {move(1, 0, most), move(1, 0, 1)}}
	for _, amounts := range [][]int{
		{most, 1}, {1, most}, {least, -1}, {-1, least}, {most, most}, {least, least}, {1 << 62, 1 << 62}, {-1 << 62, -1 << 62, -1},
		{most, most, least, 2}, {least, least, most}, {most, 1, 1, -1},
	} {
		// Where the movement is valid, and where it is not.
		for _, k := range [][2]int{{0, 0}, {0, 3}, {0, 4}, {-1, 0}, {2, 0}, {most, least}, {1, -1}, {0, most}} {
			var l []api.Move
			for _, amount := range amounts {
				l = append(l, move(k[0], k[1], amount))
			}
			for _, m := range others {
				x.with(slices.Concat(l, m)...).is(t, api.ErrOver)
				x.with(slices.Concat(m, l)...).is(t, api.ErrOver)
				x.with(slices.Concat(l[:1], m, l[1:])...).is(t, api.ErrOver)
			}
		}
	}
}

func TestSumsThatFitOnlyTogether(t *testing.T) {
	x := along(2, 5, 1, 4)
	for _, c := range []struct {
		amounts []int
		sum     int
		want    api.Errno
	}{
		{[]int{most, 1, -1}, 0, api.ErrMove}, {[]int{most, 1, least}, 0, api.OK}, {[]int{most, 2, least}, 1, api.OK}, {[]int{most, 6, least}, 5, api.OK},
		{[]int{most, 7, least}, 0, api.ErrMove}, {[]int{most, least}, 0, api.ErrMove}, {[]int{least, -1, most, 4}, 2, api.OK}, {[]int{most, most, least, least, 7}, 5, api.OK},
		{[]int{most, most, least, least, 8}, 0, api.ErrMove}, {[]int{most}, 0, api.ErrMove}, {[]int{least}, 0, api.ErrMove}, {[]int{most, -most, 3}, 3, api.OK},
	} {
		var l []api.Move
		for _, amount := range c.amounts {
			l = append(l, move(0, 1, amount))
		}
		for _, m := range orders(l) {
			if c.want == api.OK {
				isStill(t, x.with(m...), 0, 0, c.sum, c.sum, c.sum)
				continue
			}
			x.with(m...).is(t, c.want)
		}
	}
}

// What is valid of a movement.

func TestArcsThatDoNotExist(t *testing.T) {
	good := []api.Move{move(0, 0, 2), move(1, 1, 2)}
	for _, far := range []int{-1, -2, 2, 3, 199, 200, 1 << 32, -1 << 32, most, least} {
		x := along(3, 2, 1, 3)
		for _, amount := range []int{1, -1, 2, most, least} {
			for _, at := range []int{0, 1, -1, 4, most, least} {
				x.with(move(far, at, amount)).is(t, api.ErrMove)
				x.with(good[0], good[1], move(far, at, amount)).is(t, api.ErrMove)
				x.with(move(far, at, amount), good[1], good[0]).is(t, api.ErrMove)
				// What is merged to nothing does not count.
				x.with(move(far, at, amount), good[1], good[0], move(far, at, -amount)).is(t, wantOf(amount), 0, 0, 2, 2)
			}
		}
		x.with(move(far, 0, 0), good[0], good[1]).is(t, api.OK, 0, 0, 2, 2)
		none := trip{Net: api.Net{Nodes: 2}, sink: 1, last: 3}
		none.with(move(far, 0, 1)).is(t, api.ErrMove)
	}
	x := along(3, 2, 1, 3)
	x.with(move(0, 0, 1), move(1, 1, 1)).is(t, api.OK, 0, 0, 1, 1)
}

// wantOf returns the error of two movements of the amount and its negation, which
// is the amount itself if it is the least number.
func wantOf(amount int) api.Errno {
	if amount == least {
		return api.ErrOver
	}
	return api.OK
}

func TestArcsToTheSourceAndFromTheSink(t *testing.T) {
	// Of 0, 1, 2 and 3, each two are the ends, and of all arcs between them, each
	// alone has a movement.
	n := api.Net{Nodes: 4}
	for place := range 16 {
		n.Arcs = append(n.Arcs, arc(place/4, place%4, 3, place%2))
	}
	refused := 0
	for s := range 4 {
		for sink := range 4 {
			if s == sink {
				continue
			}
			x := trip{Net: n, s: s, sink: sink, last: 2}
			for place, a := range n.Arcs {
				x.moves = []api.Move{move(place, 1, 2)}
				switch {
				case a.To == s || a.From == sink:
					x.is(t, api.ErrMove)
					refused++
				case a.From == s && a.To == sink:
					x.is(t, api.OK, from(1+a.Time, 2, 2)...)
				case a.From == a.To && a.Time == 0:
					x.is(t, api.OK, 0, 0, 0)
				default:
					x.is(t, api.ErrStock)
				}
				x.with(move(place, 1, 0), move(place, 0, 1), move(place, 0, -1)).is(t, api.OK, 0, 0, 0)
			}
		}
	}
	if refused != 12*7 {
		t.Errorf("%d movements were refused", refused)
	}
}

func TestMovementsAtTheEndsAreRefusedThoughNothingStays(t *testing.T) {
	x := trip{Net: api.Net{Nodes: 3, Arcs: []api.Arc{arc(0, 1, 2, 0), arc(1, 2, 2, 0), arc(1, 0, 2, 0), arc(2, 1, 2, 0), arc(0, 0, 2, 0), arc(2, 2, 2, 0), arc(2, 0, 2, 0), arc(1, 1, 2, 0)}}, sink: 2, last: 1}
	for _, at := range []int{0, 1} {
		both := []api.Move{move(0, 0, 1), move(1, 0, 1)}
		for _, l := range [][]api.Move{
			{move(0, at, 1), move(2, at, 1)}, {move(3, at, 1), move(1, at, 1)}, {move(4, at, 1)}, {move(5, at, 1)}, {move(6, at, 1)}, {move(3, at, 1), move(2, at, 1)},
		} {
			x.with(l...).is(t, api.ErrMove)
			x.with(slices.Concat(l, both)...).is(t, api.ErrMove)
			x.with(slices.Concat(both, l)...).is(t, api.ErrMove)
		}
		x.with(append(both, move(7, at, 2))...).is(t, api.OK, 1, 1)
	}
}

func TestArcsFromANodeToItself(t *testing.T) {
	for _, time := range []int{0, 1, 2, 3} {
		x := along(3, 4, 1, 6)
		x.Arcs = append(x.Arcs, arc(1, 1, 3, time), arc(0, 0, 3, time), arc(2, 2, 3, time))
		x.with(move(3, 1, 1)).is(t, api.ErrMove)
		x.with(move(4, 1, 1)).is(t, api.ErrMove)
		alone := x.with(move(2, 1, 3))
		around := x.with(move(0, 0, 3), move(2, 1, 3), move(1, 1+time, 3))
		twice := x.with(move(0, 0, 3), move(2, 1, 3), move(2, 1+time, 2), move(1, 1+time, 1), move(1, 1+2*time, 2))
		if time > 0 {
			isNoPlan(t, alone)
		} else {
			isStill(t, alone, zeros(7)...)
			twice = around
		}
		isStill(t, around, from(2+time, 6, 3)...)
		if time == 1 || time == 2 {
			isStill(t, twice, plus(from(2+time, 6, 1), from(2+2*time, 6, 2))...)
		}
		if time > 0 {
			// What goes around is away until it is back.
			isNoPlan(t, x.with(move(0, 0, 3), move(2, 1, 3), move(1, time, 3)))
			isHeld(t, x.with(move(0, 0, 3), move(2, 1, 2), move(1, 1+time, 3)), from(2+time, 6, 3)...)
		}
	}
}

func TestPointsOfTime(t *testing.T) {
	for _, last := range []int{0, 1, 2, 5, 1000, longest} {
		for _, time := range []int{0, 1, 2, 5, 1000, longest, longest + 1, twenty - 1, twenty} {
			x := along(2, 5, time, last)
			rest := last - time
			for _, at := range []int{least, least + 1, least + twenty, -1 << 32, -twenty, -time, -2, -1, 0, 1, rest - 1, rest, rest + 1, last - 1, last, last + 1, 1 << 32, most - twenty, most - time, most - time + 1, most - 1, most} {
				if at < 0 || at > rest {
					x.with(move(0, at, 1)).is(t, api.ErrMove)
					x.with(move(0, at, 1), move(0, at, -1)).is(t, api.OK, zeros(last+1)...)
					continue
				}
				x.with(move(0, at, 3)).is(t, api.OK, from(at+time, last, 3)...)
			}
		}
	}
}

func TestAmounts(t *testing.T) {
	for _, width := range []int{0, 1, 2, 5, twenty - 1, twenty} {
		x := along(3, width, 1, 5)
		for _, amount := range []int{-1, -2, -width - 1, -twenty, -1 << 32, least, least + 1, 0, 1, width / 2, width - 1, width, width + 1, twenty + 1, 1 << 32, most - 1, most} {
			both := []api.Move{move(0, 1, amount), move(1, 2, amount)}
			if amount < 0 || amount > width {
				x.with(both...).is(t, api.ErrMove)
				x.with(both[0]).is(t, api.ErrMove)
				x.with(both[1]).is(t, api.ErrMove)
				continue
			}
			x.with(both...).is(t, api.OK, from(3, 5, amount)...)
			if amount > 0 {
				x.with(both[0]).is(t, api.ErrStock)
				x.with(both[1]).is(t, api.ErrStock)
			}
		}
	}
}

func TestTheCapIsForEachArcAndPointOfTime(t *testing.T) {
	// Two arcs side by side, and one point of time after the other.
	x := trip{Net: api.Net{Nodes: 2, Arcs: []api.Arc{arc(0, 1, 3, 1), arc(0, 1, 2, 1)}}, sink: 1, last: 4}
	x.with(move(0, 0, 3), move(1, 0, 2)).is(t, api.OK, 0, 5, 5, 5, 5)
	x.with(move(0, 0, 3), move(0, 1, 3), move(0, 2, 3), move(0, 3, 3), move(1, 3, 2)).is(t, api.OK, 0, 3, 6, 9, 14)
	x.with(move(0, 0, 2), move(1, 0, 3)).is(t, api.ErrMove)
	x.with(move(0, 0, 3), move(0, 1, 4)).is(t, api.ErrMove)
}

// What is merged.

func TestMergedMovementsAreNotValid(t *testing.T) {
	x := along(2, 3, 1, 3)
	for _, c := range []struct {
		amounts []int
		value   int
		want    api.Errno
	}{
		{[]int{2, 2}, 0, api.ErrMove}, {[]int{1, 1, 1, 1}, 0, api.ErrMove}, {[]int{3, 1}, 0, api.ErrMove}, {[]int{3, 3, -2}, 0, api.ErrMove}, {[]int{1, -2}, 0, api.ErrMove},
		{[]int{3, 0}, 3, api.OK}, {[]int{1, 2}, 3, api.OK}, {[]int{1, 1, 1}, 3, api.OK}, {[]int{5, -3}, 2, api.OK}, {[]int{4, -1}, 3, api.OK}, {[]int{9, -9, 2}, 2, api.OK},
		{[]int{-1, 1}, 0, api.OK}, {[]int{-5, 8}, 3, api.OK}, {[]int{-1, -1, 3}, 1, api.OK}, {[]int{-4, 8, -1}, 3, api.OK}, {[]int{-4, 8}, 0, api.ErrMove},
	} {
		var l []api.Move
		for _, amount := range c.amounts {
			l = append(l, move(0, 1, amount))
		}
		for _, m := range orders(l) {
			x.with(m...).is(t, c.want, arrivedOf(c.want, 2, 3, c.value)...)
			// Beside another one, in the middle of which they stand.
			other := move(0, 2, 2)
			x.with(slices.Concat(m[:1], []api.Move{other}, m[1:])...).is(t, c.want, plus(arrivedOf(c.want, 2, 3, c.value), arrivedOf(c.want, 3, 3, 2))...)
		}
	}
}

// arrivedOf returns what has arrived at each point of time, or nothing with an
// error.
func arrivedOf(want api.Errno, first, last, amount int) []int {
	if want != api.OK {
		return nil
	}
	return from(first, last, amount)
}

func TestOneArcAtOnePointOfTimeInAnyOrder(t *testing.T) {
	x := along(3, 4, 1, 4)
	l := []api.Move{move(0, 0, 1), move(1, 1, 3), move(0, 0, 2), move(1, 1, -1), move(1, 2, 1)}
	for _, m := range orders(l) {
		isHeld(t, x.with(m...), 0, 0, 2, 3, 3)
	}
	for _, m := range orders(append(l, move(0, 1, 1))) {
		isNoPlan(t, x.with(m...))
	}
}

func TestNoMovement(t *testing.T) {
	for _, nodes := range []int{2, 3, 50} {
		for _, n := range []api.Net{{Nodes: nodes}, {Nodes: nodes, Arcs: []api.Arc{}}, line(nodes, 4, 1), {Nodes: nodes, Arcs: someArcs(200)}} {
			for _, last := range []int{0, 1, 7, longest} {
				x := trip{Net: n, s: nodes - 1, last: last}
				for _, x.moves = range [][]api.Move{nil, {}, {move(0, 0, 0)}, {move(-1, -1, 0), move(most, least, 0)}, {move(0, 0, 5), move(0, 0, -5)}} {
					isStill(t, x, zeros(last+1)...)
					testStocks(t, x, slices.Repeat([][]int{zeros(nodes)}, last+1))
				}
			}
		}
	}
}

// Edges.

func TestOneNode(t *testing.T) {
	for _, n := range []api.Net{{Nodes: 1}, {Nodes: 1, Arcs: []api.Arc{}}, {Nodes: 1, Arcs: someArcs(200)}} {
		x := trip{Net: n, last: 3}
		for _, node := range []int{0, 1, -1, most, least} {
			for _, ends := range [][2]int{{node, 0}, {0, node}, {node, node}} {
				x.s, x.sink = ends[0], ends[1]
				for _, l := range append(wrongMoves(), nil) {
					x.with(l...).is(t, api.ErrEnds)
				}
			}
		}
	}
}

func TestNoArc(t *testing.T) {
	for _, nodes := range []int{2, 3, 50} {
		for _, arcs := range [][]api.Arc{nil, {}} {
			x := trip{Net: api.Net{Nodes: nodes, Arcs: arcs}, sink: 1, last: 2}
			x.with().is(t, api.OK, 0, 0, 0)
			for _, place := range []int{0, 1, -1, 199, 200, most, least} {
				x.with(move(place, 0, 1)).is(t, api.ErrMove)
				x.with(move(place, 0, 0)).is(t, api.OK, 0, 0, 0)
			}
		}
	}
}

func TestTheGreatestPlan(t *testing.T) {
	x := trip{Net: api.Net{Nodes: 50, Arcs: slices.Repeat([]api.Arc{arc(49, 0, twenty, 0)}, 200)}, s: 49, last: longest}
	arrived := make([]int, longest+1)
	for at := range longest + 1 {
		for place := range 200 {
			x.moves = append(x.moves, move(place, at, twenty))
		}
		arrived[at] = (at + 1) * 200 * twenty
	}
	isStill(t, x, arrived...)
	stocks, err := Stocks(x.Net, x.s, x.sink, x.last, x.moves)
	if err != api.OK || stocks[longest][49] != -1025*200*twenty || stocks[longest][0] != 1025*200*twenty || stocks[500][20] != 0 {
		t.Errorf("N1: %d", err)
	}
	x.moves = append(x.moves, move(199, longest, 1))
	isRefused(t, x, api.ErrMove)
}

func TestTheGreatestStock(t *testing.T) {
	// All that has come to 1 waits there as long as may be.
	x := trip{Net: api.Net{Nodes: 3, Arcs: append(slices.Repeat([]api.Arc{arc(0, 1, twenty, 0)}, 100), slices.Repeat([]api.Arc{arc(1, 2, twenty, 0)}, 100)...)}, sink: 2, last: longest}
	for at := range 512 {
		for place := range 100 {
			x.moves = append(x.moves, move(place, at, twenty), move(199-place, longest-at, twenty))
		}
	}
	stocks, err := Stocks(x.Net, x.s, x.sink, x.last, x.moves)
	if err != api.OK || !slices.Equal(stocks[511], []int{-512 * 100 * twenty, 512 * 100 * twenty, 0}) || !slices.Equal(stocks[512], stocks[511]) || !slices.Equal(stocks[longest], []int{-512 * 100 * twenty, 0, 512 * 100 * twenty}) {
		t.Errorf("N1: %v %d", stocks[511], err)
	}
	var arrived []int
	for at := range longest + 1 {
		arrived = append(arrived, max(0, at-512)*100*twenty)
	}
	isHeld(t, x, arrived...)
	x.moves[1].N--
	isNoPlan(t, x)
}

func TestAllArcsOfTheGreatestNet(t *testing.T) {
	// 200 arcs, each of which alone has a movement.
	x := trip{Net: api.Net{Nodes: 50}, sink: 49, last: 210}
	for place := range 200 {
		x.Arcs = append(x.Arcs, arc(0, 49, 1+place, place))
	}
	for place := range 200 {
		x.with(move(place, 7, 1+place)).is(t, api.OK, from(7+place, 210, 1+place)...)
		x.with(move(place, 7, 2+place)).is(t, api.ErrMove)
	}
	x.with(move(200, 7, 1)).is(t, api.ErrMove)
}

func TestCapsAndTimesAtTheEdges(t *testing.T) {
	x := trip{Net: api.Net{Nodes: 2, Arcs: []api.Arc{arc(0, 1, 0, 0), arc(0, 1, twenty, 0), arc(0, 1, 0, twenty), arc(0, 1, twenty, twenty), arc(0, 1, twenty, longest)}}, sink: 1, last: longest}
	for _, place := range []int{0, 2, 3} {
		for _, at := range []int{0, 1, longest} {
			x.with(move(place, at, 1)).is(t, api.ErrMove)
			x.with(move(place, at, -1)).is(t, api.ErrMove)
			x.with(move(place, at, 0), move(1, at, twenty)).is(t, api.OK, from(at, longest, twenty)...)
		}
	}
	x.with(move(1, 0, twenty), move(4, 0, twenty)).is(t, api.OK, plus(from(0, longest, twenty), from(longest, longest, twenty))...)
	x.with(move(1, 0, twenty), move(4, 1, twenty)).is(t, api.ErrMove)
	x.with(move(1, 0, twenty+1), move(4, 0, twenty)).is(t, api.ErrMove)
}

// The stocks.

func TestAChainOfArcsThatTakeNoTime(t *testing.T) {
	next := numbers(142)
	for _, nodes := range []int{2, 3, 50} {
		for _, last := range []int{0, 1, 9} {
			x := along(nodes, 7, 0, last)
			for at := range last + 1 {
				var l []api.Move
				for place := range nodes - 1 {
					l = append(l, move(place, at, 7))
				}
				want := from(at, last, 7)
				x.with(l...).is(t, api.OK, want...)
				slices.Reverse(l)
				x.with(l...).is(t, api.OK, want...)
				x.with(shuffled(next, l)...).is(t, api.OK, want...)
				if nodes > 2 {
					x.with(l[1:]...).is(t, api.ErrStock)
					x.with(l[:len(l)-1]...).is(t, api.ErrStock)
				}
			}
		}
		// The arcs are in the network's order the other way around.
		x := along(nodes, 7, 0, 2)
		slices.Reverse(x.Arcs)
		for place := range nodes - 1 {
			x.moves = append(x.moves, move(place, 1, 3))
		}
		x.is(t, api.OK, 0, 3, 3)
	}
}

func TestWhatArrivesMayLeaveAtOnce(t *testing.T) {
	for _, times := range [][2]int{{0, 0}, {0, 1}, {1, 0}, {1, 1}, {2, 5}, {5, 2}} {
		for _, at := range []int{0, 1, 3} {
			x := trip{Net: api.Net{Nodes: 3, Arcs: []api.Arc{arc(1, 2, 9, times[1]), arc(0, 1, 9, times[0])}}, sink: 2, last: 12}
			left := at + times[0]
			isStill(t, x.with(move(1, at, 4), move(0, left, 4)), from(left+times[1], 12, 4)...)
			isHeld(t, x.with(move(1, at, 4), move(0, left+1, 4)), from(left+1+times[1], 12, 4)...)
			isHeld(t, x.with(move(1, at, 4), move(0, left+1, 1), move(0, left, 3)), plus(from(left+times[1], 12, 3), from(left+1+times[1], 12, 1))...)
			if left > 0 {
				isNoPlan(t, x.with(move(1, at, 4), move(0, left-1, 4)))
				isNoPlan(t, x.with(move(1, at, 4), move(0, left-1, 1), move(0, left, 3)))
			}
		}
	}
}

func TestAStockBelowZero(t *testing.T) {
	// At 1 it is -1 at one point of time alone, and before and after it is 0.
	for _, at := range []int{0, 1, 5, 8} {
		x := along(3, 2, 1, 10)
		isNoPlan(t, x.with(move(0, at, 1), move(1, at, 1)))
		isNoPlan(t, x.with(move(0, at, 2), move(1, at, 1), move(1, at+1, 1)))
		isStill(t, x.with(move(0, at, 2), move(1, at+1, 2)), from(at+2, 10, 2)...)
		stocks := slices.Repeat([][]int{{0, 0, 0}}, at)
		stocks = append(stocks, []int{-1, -1, 0}, []int{-1, 0, 1})
		stocks = append(stocks, slices.Repeat([][]int{{-1, 0, 1}}, 9-at)...)
		testStocks(t, x.with(move(0, at, 1), move(1, at, 1)), stocks)
	}
	// What one node has too little of, another one may have.
	x := trip{Net: api.Net{Nodes: 4, Arcs: []api.Arc{arc(0, 1, 2, 0), arc(2, 3, 2, 0), arc(1, 2, 2, 3)}}, sink: 3, last: 4}
	isNoPlan(t, x.with(move(0, 0, 2), move(1, 0, 2)))
	isNoPlan(t, x.with(move(0, 0, 2), move(1, 0, 2), move(2, 1, 2)))
	isStill(t, x.with(move(0, 0, 2), move(1, 3, 2), move(2, 0, 2)), 0, 0, 0, 2, 2)
}

func TestARestAtTheHorizon(t *testing.T) {
	for _, node := range []int{1, 25, 48} {
		x := along(50, 4, 0, 6)
		for _, at := range []int{0, 3, 6} {
			var l []api.Move
			for place := range 49 {
				l = append(l, move(place, at, 2))
			}
			isStill(t, x.with(l...), from(at, 6, 2)...)
			// The node keeps 1 of what arrives, or all, or gives 1 of its own.
			for _, amount := range []int{1, 0, 3} {
				m := slices.Clone(l)
				for place := node; place < 49; place++ {
					m[place].N = amount
				}
				isNoPlan(t, x.with(m...))
				m = slices.Clone(l)
				m[node].N = amount
				isNoPlan(t, x.with(m...))
			}
			if at < 6 {
				// What is kept must have left at the horizon.
				m := slices.Clone(l)
				for place := node; place < 49; place++ {
					m[place].At = 6
				}
				isHeld(t, x.with(m...), from(6, 6, 2)...)
			}
		}
	}
}

func TestAStockAtAnyPointOfTime(t *testing.T) {
	for _, last := range []int{1, 2, 3, 10, longest} {
		x := along(3, 2, 0, last)
		for _, at := range []int{0, last / 2, last - 1} {
			for _, leaves := range []int{at + 1, last} {
				isHeld(t, x.with(move(0, at, 2), move(1, leaves, 2)), from(leaves, last, 2)...)
				isNoPlan(t, x.with(move(0, at, 2), move(1, leaves, 1)))
				isNoPlan(t, x.with(move(0, leaves, 2), move(1, at, 2)))
			}
			isStill(t, x.with(move(0, at, 2), move(1, at, 2)), from(at, last, 2)...)
		}
	}
}

func TestNodesKeepWhatIsOfOneAnother(t *testing.T) {
	// The first leaves when the second comes: as much is there as before.
	x := along(3, 2, 1, 6)
	isHeld(t, x.with(move(0, 0, 2), move(0, 1, 2), move(1, 2, 2), move(1, 3, 2)), 0, 0, 0, 2, 4, 4, 4)
	isStill(t, x.with(move(0, 0, 2), move(0, 1, 2), move(1, 1, 2), move(1, 2, 2)), 0, 0, 2, 4, 4, 4, 4)
	isNoPlan(t, x.with(move(0, 0, 2), move(0, 1, 2), move(1, 1, 2), move(1, 3, 1)))
}

func TestEndsMayHaveAnyStock(t *testing.T) {
	next := numbers(143)
	for range 200 {
		last := next(20)
		x := trip{Net: api.Net{Nodes: 2 + next(49)}, last: last}
		x.s = next(x.Nodes)
		x.sink = (x.s + 1 + next(x.Nodes-1)) % x.Nodes
		time := next(last + 1)
		x.Arcs = []api.Arc{arc(x.s, x.sink, 9, time)}
		arrived := zeros(last + 1)
		stocks := [][]int{}
		for at := range last - time + 1 {
			amount := next(10)
			x.moves = append(x.moves, move(0, at, amount))
			arrived = plus(arrived, from(at+time, last, amount))
		}
		gone := append(arrived[time:], slices.Repeat(arrived[last:], time)...)
		for at := range last + 1 {
			row := zeros(x.Nodes)
			row[x.s], row[x.sink] = -gone[at], arrived[at]
			stocks = append(stocks, row)
		}
		isStill(t, x, arrived...)
		testStocks(t, x, stocks)
	}
}

func TestRoundsWithoutTheEnds(t *testing.T) {
	x := trip{Net: api.Net{Nodes: 5, Arcs: []api.Arc{arc(1, 2, 3, 0), arc(2, 3, 3, 0), arc(3, 1, 3, 0), arc(0, 4, 3, 0), arc(3, 1, 3, 1)}}, sink: 4, last: 2}
	// What goes around without taking time needs nothing that has been there.
	isStill(t, x.with(move(0, 1, 3), move(1, 1, 3), move(2, 1, 3)), 0, 0, 0)
	isStill(t, x.with(move(0, 1, 3), move(1, 1, 3), move(2, 1, 3), move(3, 1, 2)), 0, 2, 2)
	isNoPlan(t, x.with(move(0, 1, 3), move(1, 1, 3), move(2, 1, 2)))
	isNoPlan(t, x.with(move(0, 1, 3), move(1, 1, 3), move(4, 1, 3)))
	isNoPlan(t, x.with(move(0, 1, 3), move(1, 1, 3), move(4, 0, 3)))
	isNoPlan(t, x.with(move(4, 0, 1), move(0, 1, 1), move(1, 2, 1)))
}

func TestOtherEnds(t *testing.T) {
	// The same movements are a plan, or not, or not valid.
	x := along(4, 3, 1, 5)
	x.moves = []api.Move{move(1, 2, 3)}
	for _, c := range []struct {
		s, sink int
		want    api.Errno
	}{
		{1, 2, api.OK}, {0, 3, api.ErrStock}, {0, 2, api.ErrStock}, {1, 3, api.ErrStock}, {2, 1, api.ErrMove}, {2, 3, api.ErrMove}, {0, 1, api.ErrMove}, {3, 0, api.ErrStock}, {1, 1, api.ErrEnds},
	} {
		x.s, x.sink = c.s, c.sink
		x.is(t, c.want, from(3, 5, 3)...)
	}
}

// N4.

func TestStillDoesNotDependOnHold(t *testing.T) {
	kinds := [3]int{}
	next := numbers(144)
	for _, x := range weaves() {
		for _, l := range append(changes(next, x), x.moves) {
			y := x.with(l...)
			if errorAnew(y) != api.OK {
				continue
			}
			y.Hold = true
			_, heldErr := Check(y.Net, y.s, y.sink, y.last, y.moves)
			is, err := Still(y.Net, y.s, y.sink, y.last, y.moves)
			y.Hold = false
			_, freeErr := Check(y.Net, y.s, y.sink, y.last, y.moves)
			isFree, errFree := Still(y.Net, y.s, y.sink, y.last, y.moves)
			if err != heldErr || is != (freeErr == api.OK) || isFree != is || errFree != err {
				t.Fatalf("N4: %v: %v %d, %v %d; Check: %d, %d", y, is, err, isFree, errFree, heldErr, freeErr)
			}
			if err != api.OK {
				kinds[2]++
			} else if is {
				kinds[1]++
			} else {
				kinds[0]++
			}
		}
	}
	if slices.Min(kinds[:]) < 100 {
		t.Errorf("only %v", kinds)
	}
}

// N5.

func TestWhatLeavesTheSourceIsTheValue(t *testing.T) {
	plans := 0
	for _, x := range append(weaves(), longWeaves()...) {
		x.Hold = true
		value, err := Check(x.Net, x.s, x.sink, x.last, x.moves)
		left, come := 0, 0
		for _, m := range x.moves {
			if x.Arcs[m.Arc].From == x.s {
				left += m.N
			}
			if x.Arcs[m.Arc].To == x.sink {
				come += m.N
			}
		}
		if value != left || value != come || err != api.OK {
			t.Fatalf("N5: %v: %d %d, but %d leaves, and %d comes", x, value, err, left, come)
		}
		stocks, err := Stocks(x.Net, x.s, x.sink, x.last, x.moves)
		if stocks[x.last][x.s] != -value || stocks[x.last][x.sink] != value || err != api.OK {
			t.Fatalf("N5: %v: %v %d, want %d", x, stocks[x.last], err, value)
		}
		if value > 0 {
			plans++
		}
	}
	if plans < 100 {
		t.Errorf("only %d plans have a value", plans)
	}
}

func TestArrivedNeverDecreases(t *testing.T) {
	grown := 0
	for _, x := range append(weaves(), longWeaves()...) {
		x.Hold = true
		arrived, err := Arrived(x.Net, x.s, x.sink, x.last, x.moves)
		if !slices.IsSorted(arrived) || arrived[0] < 0 || len(arrived) != x.last+1 || err != api.OK {
			t.Fatalf("N5: %v: %v %d", x, arrived, err)
		}
		value, err := Check(x.Net, x.s, x.sink, x.last, x.moves)
		if arrived[x.last] != value || err != api.OK {
			t.Fatalf("N5: %v: %v, but the value is %d %d", x, arrived, value, err)
		}
		if len(slices.Compact(arrived)) > 2 {
			grown++
		}
	}
	if grown < 100 {
		t.Errorf("only %d plans", grown)
	}
}

// isSame fails unless all calls answer the same for two trips.
func isSame(t *testing.T, x, y trip) {
	t.Helper()
	for _, hold := range []bool{true, false} {
		x.Hold, y.Hold = hold, hold
		stocks, err := Stocks(x.Net, x.s, x.sink, x.last, x.moves)
		stocksToo, errToo := Stocks(y.Net, y.s, y.sink, y.last, y.moves)
		if !areRows(stocks, stocksToo) || err != errToo {
			t.Fatalf("N5: Stocks of %v and %v: %d %d", x, y, err, errToo)
		}
		arrived, err := Arrived(x.Net, x.s, x.sink, x.last, x.moves)
		arrivedToo, errToo := Arrived(y.Net, y.s, y.sink, y.last, y.moves)
		if !slices.Equal(arrived, arrivedToo) || err != errToo {
			t.Fatalf("N5: Arrived of %v and %v: %v %d, %v %d", x, y, arrived, err, arrivedToo, errToo)
		}
		value, err := Check(x.Net, x.s, x.sink, x.last, x.moves)
		valueToo, errToo := Check(y.Net, y.s, y.sink, y.last, y.moves)
		if value != valueToo || err != errToo {
			t.Fatalf("N5: Check of %v and %v: %d %d, %d %d", x, y, value, err, valueToo, errToo)
		}
		is, err := Still(x.Net, x.s, x.sink, x.last, x.moves)
		isToo, errToo := Still(y.Net, y.s, y.sink, y.last, y.moves)
		if is != isToo || err != errToo {
			t.Fatalf("N5: Still of %v and %v: %v %d, %v %d", x, y, is, err, isToo, errToo)
		}
	}
}

func TestMergedOrNotAndInAnyOrder(t *testing.T) {
	next := numbers(145)
	for _, x := range append(weaves(), longWeaves()[5:8]...) {
		all := [][]api.Move{x.moves}
		if x.last <= 60 {
			changed := shuffled(next, changes(next, x))
			all = append(all, changed[:min(4, len(changed))]...)
		}
		for _, l := range all {
			y := x.with(l...)
			merged, err := table.Moves(l)
			if err != api.OK {
				t.Fatal(err)
			}
			back := slices.Clone(merged)
			slices.Reverse(back)
			isSame(t, y, y.with(merged...))
			isSame(t, y, y.with(back...))
			isSame(t, y, y.with(shuffled(next, l)...))
			if errorAnew(y) == api.OK {
				isSame(t, y, y.with(pieces(next, merged)...))
			}
		}
	}
}

func TestTwoPlansWithDifferentPointsOfTime(t *testing.T) {
	next := numbers(146)
	all := weaves()
	put := 0
	for _, x := range all {
		x.Hold = next(2) == 0
		y := x.with(slices.Clone(x.moves[:len(x.moves)-next(len(x.moves)+1)])...)
		for range min(x.last, 5) {
			y.moves = append(y.moves, stroll(next, x, 1, false)...)
		}
		if errorAnew(y) != api.OK || 2*x.last+1 > longest {
			continue
		}
		// One behind the other, and both among each other at even and odd points of
		// time.
		first, second := x.moves, y.moves
		if put%2 == 1 {
			first, second = doubled(first), later(doubled(second), 1)
			x.Arcs = slices.Clone(x.Arcs)
			for i := range x.Arcs {
				x.Arcs[i].Time = min(twenty, 2*x.Arcs[i].Time)
			}
		} else {
			second = later(second, x.last+1)
		}
		x.last = 2*x.last + 1
		areTogether(t, x, first, second)
		put++
	}
	if put < 100 {
		t.Errorf("only %d plans were put together", put)
	}
}

// doubled returns the movements at twice their points of time.
func doubled(l []api.Move) []api.Move {
	out := slices.Clone(l)
	for i := range out {
		out[i].At *= 2
	}
	return out
}

// areTogether fails unless two lists of movements that have no point of time in
// common have the sums of their stocks together, and those of what has arrived if
// they are plans.
func areTogether(t *testing.T, x trip, l, m []api.Move) {
	t.Helper()
	both := x.with(slices.Concat(l, m)...)
	testTrip(t, both)
	stocks, err := Stocks(x.Net, x.s, x.sink, x.last, l)
	stocksToo, errToo := Stocks(x.Net, x.s, x.sink, x.last, m)
	if err != api.OK || errToo != api.OK {
		t.Fatalf("N1: %v, %v, %v: %d %d", x.Net, l, m, err, errToo)
	}
	for at := range stocks {
		stocks[at] = plus(stocks[at], stocksToo[at])
	}
	testStocks(t, both, stocks)
	arrived, err := Arrived(x.Net, x.s, x.sink, x.last, l)
	arrivedToo, errToo := Arrived(x.Net, x.s, x.sink, x.last, m)
	if err == api.OK && errToo == api.OK {
		testPlan(t, both, plus(arrived, arrivedToo), api.OK)
	}
}

func TestAGreaterHorizon(t *testing.T) {
	for i, x := range append(weaves(), longWeaves()...) {
		x.Hold = true
		arrived, err := Arrived(x.Net, x.s, x.sink, x.last, x.moves)
		stocks, errStocks := Stocks(x.Net, x.s, x.sink, x.last, x.moves)
		is, errStill := Still(x.Net, x.s, x.sink, x.last, x.moves)
		if err != api.OK || errStocks != api.OK || errStill != api.OK {
			t.Fatalf("N5: %v: %d %d %d", x, err, errStocks, errStill)
		}
		for _, more := range []int{1, 2, 30, longest - x.last} {
			if y := x; x.last+more <= longest && (more <= 30 || i%6 == 0) {
				y.last += more
				testPlan(t, y, append(slices.Clone(arrived), slices.Repeat(arrived[x.last:], more)...), api.OK)
				testStocks(t, y, append(slices.Clone(stocks), slices.Repeat(stocks[x.last:], more)...))
				testStill(t, y, is, api.OK)
			}
		}
	}
}

// The words: movements are merged by layer 3, and what a flow's balance is at a
// node is what is missing there at the horizon.

func TestStocksAtTheHorizonAreBalances(t *testing.T) {
	for _, x := range weaves() {
		total := x.Net
		total.Arcs = slices.Clone(x.Arcs)
		flow := zeros(len(x.Arcs))
		for _, m := range x.moves {
			flow[m.Arc] += m.N
		}
		for place := range total.Arcs {
			total.Arcs[place].Cap = flow[place]
		}
		balance, err := static.Balance(total, flow)
		stocks, errStocks := Stocks(x.Net, x.s, x.sink, x.last, x.moves)
		if err != api.OK || errStocks != api.OK {
			t.Fatalf("N1: %v: %d %d", x, err, errStocks)
		}
		for node, k := range balance {
			if stocks[x.last][node] != -k {
				t.Fatalf("N1: %v: %v, balance %v", x, stocks[x.last], balance)
			}
		}
	}
}

// R3, R4.

func TestArgumentsStay(t *testing.T) {
	all := append(weaves(), trip{}, trip{Net: api.Net{Nodes: 51, Arcs: someArcs(3)}}, trip{Net: api.Net{Nodes: 2, Arcs: []api.Arc{{To: 1}, {To: 2}, {Cap: twenty + 1}}}, sink: 1})
	for i, x := range all {
		for _, l := range append(wrongMoves(), x.moves, append(slices.Clone(x.moves), move(0, 0, 1), move(0, 0, -1), move(1, 0, 0))) {
			l = append(slices.Clone(l), move(-7, -7, -7))
			y := x.with(l[:len(l)-1]...)
			arcs, moves := slices.Clone(x.Arcs), slices.Clone(l)
			y.Arcs = x.Arcs[:len(x.Arcs)-min(1, len(x.Arcs))]
			for _, net := range []api.Net{x.Net, y.Net} {
				for _, last := range []int{x.last, -1, 0} {
					Stocks(net, x.s, x.sink, last, y.moves)
					Check(net, x.s, x.sink, last, y.moves)
					Arrived(net, x.s, x.sink, last, y.moves)
					Still(net, x.s, x.sink, last, y.moves)
				}
			}
			if !slices.Equal(x.Arcs, arcs) || !slices.Equal(l, moves) {
				t.Fatalf("R3: network %d: %v %v became %v %v", i, arcs, moves, x.Arcs, l)
			}
		}
	}
}

func TestResultsAreApart(t *testing.T) {
	x := along(3, 4, 1, 3).with(move(0, 0, 3), move(1, 1, 2), move(1, 2, 1))
	want := [][]int{{-3, 0, 0}, {-3, 1, 0}, {-3, 0, 2}, {-3, 0, 3}}
	for range 3 {
		stocks, _ := Stocks(x.Net, x.s, x.sink, x.last, x.moves)
		for at, row := range stocks {
			if !slices.Equal(row, want[at]) {
				t.Fatalf("R3: a change of the ones before made row %d %v", at, row)
			}
			for i := range row[:cap(row)] {
				row[:cap(row)][i] = 77
			}
		}
		x.Hold = true
		arrived, _ := Arrived(x.Net, x.s, x.sink, x.last, x.moves)
		for i := range arrived[:cap(arrived)] {
			arrived[:cap(arrived)][i] = 77
		}
		testStocks(t, x, want)
		isHeld(t, x, 0, 0, 2, 3)
	}
}

func TestEarlierCallsMakeNoDifference(t *testing.T) {
	for _, x := range weaves() {
		stocks, err := Stocks(x.Net, x.s, x.sink, x.last, x.moves)
		arrived, errArrived := Arrived(x.Net, x.s, x.sink, x.last, x.moves)
		isRefused(t, trip{Net: api.Net{Nodes: 51}}, api.ErrLimit)
		isRefused(t, x.with(move(200, 0, 1)), api.ErrMove)
		isStill(t, along(5, 3, 0, 2).with(move(3, 1, 2), move(0, 1, 2), move(1, 1, 2), move(2, 1, 2)), 0, 2, 2)
		again, errAgain := Stocks(x.Net, x.s, x.sink, x.last, x.moves)
		arrivedAgain, errArrivedAgain := Arrived(x.Net, x.s, x.sink, x.last, x.moves)
		if !reflect.DeepEqual(stocks, again) || err != errAgain || !reflect.DeepEqual(arrived, arrivedAgain) || errArrived != errArrivedAgain {
			t.Errorf("R4: %v: %v %d, %v %d", x, again, errAgain, arrivedAgain, errArrivedAgain)
		}
	}
}

// Ways: a movement is looked up by what it enters and when, and the stocks are as
// many counts as a network may have nodes.

func TestWhatEntersIsLookedUp(t *testing.T) {
	for _, x := range weaves() {
		c, err := follow(x.Net, x.s, x.sink, x.last, x.moves)
		merged, errMoves := table.Moves(x.moves)
		if err != api.OK || errMoves != api.OK || len(c.amounts) != len(merged) {
			t.Fatalf("N1: %v: %v %d %d", x, c.amounts, err, errMoves)
		}
		for _, m := range merged {
			if c.amounts[entry{m.Arc, m.At}] != m.N {
				t.Fatalf("N1: %v: %v has %d", x, m, c.amounts[entry{m.Arc, m.At}])
			}
		}
		for at, stock := range c.stocks() {
			for node, amount := range stock {
				if node >= x.Nodes && amount != 0 {
					t.Fatalf("N1: %v: node %d at %d has %d", x, node, at, amount)
				}
			}
		}
	}
}

func TestExamples(t *testing.T) {
	isStill(t, along(3, 2, 1, 2).with(move(0, 0, 2), move(1, 1, 2)), 0, 0, 2)
	isHeld(t, along(3, 2, 1, 3).with(move(0, 0, 2), move(1, 2, 2)), 0, 0, 0, 2)
	// DOC.md's: what leaves at 0, 1, 2 and 3 is 8 within 5.
	x := along(3, 2, 1, 5)
	for at := range 4 {
		x.moves = append(x.moves, move(0, at, 2), move(1, at+1, 2))
	}
	isStill(t, x, 0, 0, 2, 4, 6, 8)
}
