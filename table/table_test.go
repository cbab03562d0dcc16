package table

import (
	"fmt"
	"math"
	"math/big"
	"slices"
	"testing"

	"ebbtide/api"
)

const (
	most  = math.MaxInt64
	least = math.MinInt64
)

// numbers returns a function that returns one number after the other, the same
// ones in each run.
func numbers(seed uint64) func(below int) int {
	return func(below int) int {
		seed = seed*6364136223846793005 + 1442695040888963407
		return int(seed>>33) % below
	}
}

// orders returns all orders of the items of l.
func orders[T any](l []T) [][]T {
	if len(l) == 0 {
		return [][]T{nil}
	}
	var out [][]T
	for _, rest := range orders(l[1:]) {
		for at := range len(l) {
			out = append(out, slices.Insert(slices.Clone(rest), at, l[0]))
		}
	}
	return out
}

// extremes returns numbers whose differences do not all fit into 64 bits.
func extremes() []int { return []int{least, least + 1, -1, 0, 1, most - 1, most} }

// edgeArcs returns arcs with equal keys, arcs whose keys differ in one number
// alone, arcs that go back and arcs with the least and the greatest numbers.
func edgeArcs() []api.Arc {
	l := []api.Arc{
		{From: 5, To: 6, Cap: 1, Time: 7}, {From: 4, To: 6, Cap: 2, Time: 7}, {From: 5, To: 7, Cap: 3, Time: 7},
		{From: 5, To: 6, Cap: 4, Time: 8}, {From: 6, To: 5, Cap: 5, Time: 7}, {From: 5, To: 6, Cap: -6, Time: 7},
		{From: -5, To: 6, Cap: 7, Time: 7}, {From: 5, To: -6, Cap: 8, Time: 7}, {From: 5, To: 6, Cap: 9, Time: -7},
		{From: 3, To: 3, Cap: 0, Time: 0}, {From: 5, To: 6, Cap: 1, Time: 7},
	}
	for _, x := range extremes() {
		l = append(l, api.Arc{From: x, To: 1, Cap: x, Time: 1}, api.Arc{From: 1, To: x, Cap: x, Time: 1}, api.Arc{From: 1, To: 1, Cap: 3, Time: x})
	}
	return l
}

// arcLists returns lists of arcs: short ones, the edges in several orders, and
// ones with few keys, so that many arcs have the same one. No sum of Caps of
// one key is too great.
func arcLists() [][]api.Arc {
	back := edgeArcs()
	slices.Reverse(back)
	lists := [][]api.Arc{nil, {}, {{}}, {{From: 1, To: 2, Cap: 3, Time: 4}}, edgeArcs(), back}
	lists = append(lists, orders(edgeArcs()[:6])...)
	next := numbers(1)
	for n := range 80 {
		l := make([]api.Arc, n)
		for i := range l {
			l[i] = api.Arc{From: next(4) - 2, To: next(4) - 2, Cap: next(9) - 4, Time: next(4) - 2}
		}
		lists = append(lists, l)
	}
	return lists
}

// hasKey tells anew when an arc has a key.
func hasKey(a api.Arc, k api.Key) bool {
	return a.From == k.From && a.To == k.To && a.Time == k.Time
}

// isBefore reports whether the first number that differs is less in a.
func isBefore(a, b []int) bool {
	for i := range a {
		if a[i] != b[i] {
			return a[i] < b[i]
		}
	}
	return false
}

// isAscending fails unless each item's numbers come before those of the next.
func isAscending[T any](t *testing.T, promise string, l []T, numbersOf func(T) []int) {
	t.Helper()
	for i := 1; i < len(l); i++ {
		if !isBefore(numbersOf(l[i-1]), numbersOf(l[i])) {
			t.Errorf("%s: %v is followed by %v", promise, l[i-1], l[i])
		}
	}
}

// bigSum returns the sum of all numbers of l, of any size.
func bigSum(l []int) *big.Int {
	sum := new(big.Int)
	for _, x := range l {
		sum.Add(sum, big.NewInt(int64(x)))
	}
	return sum
}

// capsOf returns the Caps of the arcs of l with that key.
func capsOf(l []api.Arc, k api.Key) []int {
	var out []int
	for _, a := range l {
		if hasKey(a, k) {
			out = append(out, a.Cap)
		}
	}
	return out
}

func TestFind(t *testing.T) {
	for _, l := range arcLists() {
		asked := append(slices.Clone(l), edgeArcs()...)
		for _, a := range asked {
			for _, k := range []api.Key{{From: a.From, To: a.To, Time: a.Time}, {From: a.To, To: a.From, Time: a.Time}, {From: a.Time, To: a.To, Time: a.From}} {
				want := -1
				for i := len(l) - 1; i >= 0; i-- {
					if hasKey(l[i], k) {
						want = i
					}
				}
				if got := Find(l, k); got != want {
					t.Fatalf("C1: Find(%v, %v): %d, want %d", l, k, got, want)
				}
			}
		}
	}
}

func TestFindAtTheEdges(t *testing.T) {
	l := []api.Arc{{From: 1, To: 2, Cap: 9, Time: 3}, {From: 1, To: 2, Cap: 8, Time: 3}, {From: least, To: most, Time: -1}, {From: 1, To: 2, Time: 3}}
	for _, c := range []struct {
		l    []api.Arc
		k    api.Key
		want int
	}{
		{nil, api.Key{}, -1}, {[]api.Arc{}, api.Key{}, -1}, {[]api.Arc{{Cap: 5}}, api.Key{}, 0},
		{l, api.Key{From: 1, To: 2, Time: 3}, 0}, {l[1:], api.Key{From: 1, To: 2, Time: 3}, 0},
		{l[2:], api.Key{From: 1, To: 2, Time: 3}, 1}, {l, api.Key{From: least, To: most, Time: -1}, 2},
		{l, api.Key{From: 2, To: 2, Time: 3}, -1}, {l, api.Key{From: 1, To: 1, Time: 3}, -1},
		{l, api.Key{From: 1, To: 2, Time: 9}, -1}, {l, api.Key{From: 2, To: 1, Time: 3}, -1},
		{l, api.Key{From: most, To: least, Time: -1}, -1}, {l, api.Key{}, -1}, {l[:2], api.Key{From: least, To: most, Time: -1}, -1},
	} {
		if got := Find(c.l, c.k); got != c.want {
			t.Errorf("C1: Find(%v, %v): %d, want %d", c.l, c.k, got, c.want)
		}
	}
}

// groupsAnew returns what C2 asks for, by looking for each arc through all.
func groupsAnew(l []api.Arc) [][]int {
	var out [][]int
	for i, a := range l {
		k := api.Key{From: a.From, To: a.To, Time: a.Time}
		var places []int
		for j, b := range l {
			if hasKey(b, k) {
				places = append(places, j)
			}
		}
		if places[0] == i {
			out = append(out, places)
		}
	}
	return out
}

func TestGroups(t *testing.T) {
	for _, l := range arcLists() {
		got, want := Groups(l), groupsAnew(l)
		if fmt.Sprint(got) != fmt.Sprint(want) {
			t.Errorf("C2: Groups(%v): %v, want %v", l, got, want)
		}
		seen := make([]int, len(l))
		for _, places := range got {
			for _, i := range places {
				seen[i]++
			}
		}
		for i, n := range seen {
			if n != 1 {
				t.Errorf("C8: Groups(%v) contains %d %d times", l, i, n)
			}
		}
	}
}

// isMerged fails unless m is what C3 asks for of l.
func isMerged(t *testing.T, l, m []api.Arc) {
	t.Helper()
	isAscending(t, "C3", m, func(a api.Arc) []int { return []int{a.From, a.To, a.Time} })
	for _, a := range m {
		caps := capsOf(l, api.Key{From: a.From, To: a.To, Time: a.Time})
		if len(caps) == 0 || bigSum(caps).Cmp(big.NewInt(int64(a.Cap))) != 0 {
			t.Errorf("C3: Merge(%v) contains %v", l, a)
		}
	}
	for _, a := range l {
		if len(capsOf(m, api.Key{From: a.From, To: a.To, Time: a.Time})) != 1 {
			t.Errorf("C3: Merge(%v): %v lacks the key of %v", l, m, a)
		}
	}
}

func TestMerge(t *testing.T) {
	for _, l := range arcLists() {
		m, err := Merge(l)
		if err != api.OK {
			t.Errorf("C3: Merge(%v): %d", l, err)
		}
		isMerged(t, l, m)
		again, err := Merge(m)
		if !slices.Equal(again, m) || err != api.OK {
			t.Errorf("C8: Merge(%v): %v %d", m, again, err)
		}
	}
}

// amountLists returns lists of amounts whose sums fit at once, fit only
// together, just fit, and just do not fit, in all orders.
func amountLists() [][]int {
	var out [][]int
	for _, l := range [][]int{
		{0}, {most}, {least}, {3, -5}, {most, 1}, {least, -1}, {most, 0}, {most - 1, 1}, {least + 1, -1},
		{most, 1, -1}, {least, -1, 1}, {most, least}, {most, least, 1}, {most, least, 2}, {most, most, least, least},
		{most, most, least, least, 2}, {most, most, least, least, 1}, {most, most, most, least, least},
		{least, least, most, most, 1}, {least, least, most, 1}, {least, least, most}, {1 << 62, 1 << 62},
		{1 << 62, 1 << 62, -1}, {-1 << 62, -1 << 62}, {-1 << 62, -1 << 62, -1}, {1 << 62, 1 << 62, 1 << 62, 1 << 62},
		{least, least}, {most, -most}, {most, most, 2},
	} {
		out = append(out, orders(l)...)
	}
	return out
}

// fits reports whether the sum of all numbers of l fits into 64 bits.
func fits(l []int) bool { return bigSum(l).IsInt64() }

func TestMergeSums(t *testing.T) {
	// What stands before, among and behind the arcs of one key has other keys.
	for _, others := range [][]api.Arc{nil, {{From: 1, To: 2, Cap: most, Time: 4}, {From: 1, To: 2, Cap: -7, Time: 2}, {From: 0, To: 2, Cap: least, Time: 3}}} {
		for _, caps := range amountLists() {
			l := slices.Clone(others[:min(1, len(others))])
			for i, n := range caps {
				l = append(l, api.Arc{From: 1, To: 2, Cap: n, Time: 3})
				if i == 0 && len(others) > 1 {
					l = append(l, others[1])
				}
			}
			l = append(l, others[min(2, len(others)):]...)
			m, err := Merge(l)
			if !fits(caps) {
				if len(m) != 0 || err != api.ErrOver {
					t.Errorf("C3: Merge(%v): %v %d, want ErrOver", l, m, err)
				}
				continue
			}
			if err != api.OK {
				t.Errorf("C3: Merge(%v): %v %d", l, m, err)
			}
			isMerged(t, l, m)
		}
	}
}

func TestMergeKeepsAnArcWithoutCap(t *testing.T) {
	l := []api.Arc{{From: 1, To: 2, Cap: 4, Time: 3}, {From: 1, To: 2, Cap: -4, Time: 3}}
	if m, err := Merge(l); !slices.Equal(m, []api.Arc{{From: 1, To: 2, Time: 3}}) || err != api.OK {
		t.Errorf("C3: Merge(%v): %v %d", l, m, err)
	}
}

// busyAnew returns what C4 asks for, by looking for each arc through all.
func busyAnew(l []api.Arc) (ends [2]int, n int) {
	for _, a := range l {
		count := 0
		for _, b := range l {
			if a.From == b.From && a.To == b.To {
				count++
			}
		}
		if count > n || count == n && isBefore([]int{a.From, a.To}, ends[:]) {
			ends, n = [2]int{a.From, a.To}, count
		}
	}
	return ends, n
}

func TestBusy(t *testing.T) {
	lists := arcLists()
	// Pairs that as many arcs have, the least and the greatest ones among them.
	var pairs []api.Arc
	for _, from := range extremes() {
		for _, to := range extremes() {
			pairs = append(pairs, api.Arc{From: from, To: to, Cap: from, Time: to}, api.Arc{From: from, To: to})
		}
	}
	for range len(pairs) {
		pairs = append(slices.Clone(pairs[1:]), pairs[0])
		lists = append(lists, pairs, append(slices.Clone(pairs), pairs[7]))
	}
	for _, l := range lists {
		ends, n := Busy(l)
		if wantEnds, want := busyAnew(l); ends != wantEnds || n != want {
			t.Errorf("C4: Busy(%v): %v %d, want %v %d", l, ends, n, wantEnds, want)
		}
	}
}

func TestBusyAtTheEdges(t *testing.T) {
	for _, c := range []struct {
		l    []api.Arc
		ends [2]int
		n    int
	}{
		{nil, [2]int{}, 0}, {[]api.Arc{}, [2]int{}, 0}, {[]api.Arc{{From: 3, To: 2}}, [2]int{3, 2}, 1},
		{[]api.Arc{{From: most, To: most}}, [2]int{most, most}, 1},
		{[]api.Arc{{From: 1, To: 9}, {From: 2, To: -9}, {From: 1, To: 8}}, [2]int{1, 8}, 1},
		{[]api.Arc{{From: 5, To: 4}, {From: 4, To: 5}, {From: 5, To: 4}, {From: 4, To: 5}}, [2]int{4, 5}, 2},
		{[]api.Arc{{From: 1, To: 1}, {From: 5, To: 4, Cap: 1, Time: 2}, {From: 5, To: 4, Cap: 2, Time: 3}}, [2]int{5, 4}, 2},
	} {
		for _, l := range orders(c.l) {
			if ends, n := Busy(l); ends != c.ends || n != c.n {
				t.Errorf("C4: Busy(%v): %v %d, want %v %d", l, ends, n, c.ends, c.n)
			}
		}
	}
}

func TestTurn(t *testing.T) {
	for _, l := range arcLists() {
		turned := Turn(l)
		if len(turned) != len(l) {
			t.Fatalf("C5: Turn(%v): %v", l, turned)
		}
		for i, a := range turned {
			b := l[i]
			if a.From != b.To || a.To != b.From || a.Cap != b.Cap || a.Time != b.Time {
				t.Errorf("C5: %v became %v", b, a)
			}
		}
		if again := Turn(turned); !slices.Equal(again, l) {
			t.Errorf("C5: %v, turned twice, became %v", l, again)
		}
	}
}

// slotLists returns lists of slots in which some occur several times.
func slotLists() [][]api.Slot {
	var edges []api.Slot
	for _, node := range extremes() {
		for _, at := range extremes() {
			edges = append(edges, api.Slot{Node: node, At: at})
		}
	}
	back := append(slices.Clone(edges), edges[3:9]...)
	slices.Reverse(back)
	lists := [][]api.Slot{nil, {}, {{}}, {{Node: 3, At: 4}}, {{}, {}, {}}, edges, back}
	lists = append(lists, orders([]api.Slot{{Node: 1, At: 2}, {Node: 2, At: 1}, {Node: 1, At: 1}, {Node: 2, At: 1}, {Node: -2, At: 1}, {Node: 1, At: -1}})...)
	next := numbers(2)
	for n := range 80 {
		l := make([]api.Slot, n)
		for i := range l {
			l[i] = api.Slot{Node: next(7) - 3, At: next(7) - 3}
		}
		lists = append(lists, l)
	}
	return lists
}

func TestSlots(t *testing.T) {
	for _, l := range slotLists() {
		got := Slots(l)
		isAscending(t, "C6", got, func(s api.Slot) []int { return []int{s.At, s.Node} })
		for _, s := range got {
			if !slices.Contains(l, s) {
				t.Errorf("C6: Slots(%v) contains %v", l, s)
			}
		}
		for _, s := range l {
			if !slices.Contains(got, s) {
				t.Errorf("C6: Slots(%v) lacks %v", l, s)
			}
		}
	}
}

// amountsOf returns the Ns of the movements of l with that Arc and At.
func amountsOf(l []api.Move, arc, at int) []int {
	var out []int
	for _, x := range l {
		if x.Arc == arc && x.At == at {
			out = append(out, x.N)
		}
	}
	return out
}

// areMoves fails unless m is what C7 asks for of l.
func areMoves(t *testing.T, l, m []api.Move) {
	t.Helper()
	isAscending(t, "C7", m, func(x api.Move) []int { return []int{x.At, x.Arc} })
	for _, x := range m {
		sum := bigSum(amountsOf(l, x.Arc, x.At))
		if x.N == 0 || sum.Cmp(big.NewInt(int64(x.N))) != 0 {
			t.Errorf("C7: Moves(%v) contains %v", l, x)
		}
	}
	for _, x := range l {
		want := bigSum(amountsOf(l, x.Arc, x.At)).Sign() != 0
		if got := len(amountsOf(m, x.Arc, x.At)) != 0; got != want {
			t.Errorf("C7: Moves(%v): %v: whether there is one as %v: %v", l, m, x, got)
		}
	}
}

// moveLists returns lists of movements in which no sum is too great.
func moveLists() [][]api.Move {
	var edges []api.Move
	for _, x := range extremes() {
		edges = append(edges, api.Move{Arc: x, At: 1, N: x}, api.Move{Arc: 1, At: x, N: -3}, api.Move{Arc: x, At: x, N: 2})
	}
	back := append(slices.Clone(edges), edges[1:3]...)
	slices.Reverse(back)
	lists := [][]api.Move{nil, {}, {{}}, {{Arc: 1, At: 2, N: 0}}, {{Arc: 1, At: 2, N: 3}}, edges, back}
	lists = append(lists, orders([]api.Move{{Arc: 1, At: 2, N: 3}, {Arc: 2, At: 1, N: 3}, {Arc: 1, At: 2, N: -3}, {Arc: 1, At: 1, N: 5}, {Arc: 2, At: 1, N: 4}, {Arc: 2, At: 2, N: 0}})...)
	next := numbers(3)
	for n := range 80 {
		l := make([]api.Move, n)
		for i := range l {
			l[i] = api.Move{Arc: next(5) - 2, At: next(5) - 2, N: next(5) - 2}
		}
		lists = append(lists, l)
	}
	return lists
}

func TestMoves(t *testing.T) {
	for _, l := range moveLists() {
		m, err := Moves(l)
		if err != api.OK {
			t.Errorf("C7: Moves(%v): %d", l, err)
		}
		areMoves(t, l, m)
		again, err := Moves(m)
		if !slices.Equal(again, m) || err != api.OK {
			t.Errorf("C7: Moves(%v): %v %d", m, again, err)
		}
	}
}

func TestMovesSums(t *testing.T) {
	for _, others := range [][]api.Move{nil, {{Arc: 2, At: 1, N: most}, {Arc: 1, At: 3, N: least}, {Arc: 2, At: 2, N: 0}}} {
		for _, amounts := range amountLists() {
			l := slices.Clone(others[:min(1, len(others))])
			for i, n := range amounts {
				l = append(l, api.Move{Arc: 1, At: 2, N: n})
				if i == 0 && len(others) > 1 {
					l = append(l, others[1])
				}
			}
			l = append(l, others[min(2, len(others)):]...)
			m, err := Moves(l)
			if !fits(amounts) {
				if len(m) != 0 || err != api.ErrOver {
					t.Errorf("C7: Moves(%v): %v %d, want ErrOver", l, m, err)
				}
				continue
			}
			if err != api.OK {
				t.Errorf("C7: Moves(%v): %v %d", l, m, err)
			}
			areMoves(t, l, m)
		}
	}
}

func TestManyArcs(t *testing.T) {
	const n = 1 << 16
	l := make([]api.Arc, n)
	for i := range l {
		// The factor is odd, so that each From below 2^15 occurs twice.
		l[i] = api.Arc{From: i * 40503 % (n / 2), Cap: i}
	}
	m, err := Merge(l)
	if len(m) != n/2 || err != api.OK {
		t.Fatalf("C3: %d arcs, %d", len(m), err)
	}
	groups := Groups(l)
	for i, places := range groups {
		if len(places) != 2 || places[0] != i || places[1] != i+n/2 {
			t.Fatalf("C2: group %d: %v", i, places)
		}
		if a := m[l[i].From]; a != (api.Arc{From: l[i].From, Cap: 2*i + n/2}) {
			t.Fatalf("C3: %v", a)
		}
	}
	if len(groups) != n/2 {
		t.Errorf("C2: %d groups", len(groups))
	}
	if ends, n := Busy(l); ends != [2]int{} || n != 2 {
		t.Errorf("C4: %v %d", ends, n)
	}
}

// keeps fails if the calls, or a write into what they return, change l, which
// is given to them without its last item.
func keeps[T comparable](t *testing.T, l []T, calls ...func([]T) []T) {
	t.Helper()
	was := slices.Clone(l)
	for i, call := range calls {
		out := call(l[:len(l)-1])
		if !slices.Equal(l, was) {
			t.Fatalf("R3: call %d: %v became %v", i, was, l)
		}
		clear(out)
		_ = append(out, l[0])
		if !slices.Equal(l, was) {
			t.Fatalf("R3: the result of call %d is part of its argument: %v became %v", i, was, l)
		}
	}
}

func TestArgumentsStay(t *testing.T) {
	arcs := append([]api.Arc{{From: 9, To: 8, Cap: 7, Time: 6}}, edgeArcs()...)
	for _, l := range [][]api.Arc{arcs, slices.Clone(arcs[:2]), {{Cap: most}, {Cap: 1}, {From: 4}}} {
		keeps(t, l,
			func(l []api.Arc) []api.Arc { Find(l, api.Key{From: 5, To: 6, Time: 7}); return nil },
			func(l []api.Arc) []api.Arc { Groups(l); return nil },
			func(l []api.Arc) []api.Arc { m, _ := Merge(l); return m },
			func(l []api.Arc) []api.Arc { Busy(l); return nil },
			Turn)
	}
	keeps(t, []api.Slot{{Node: 1, At: 2}, {Node: 2, At: 1}, {Node: 1, At: 2}, {Node: 0, At: 0}}, Slots)
	keeps(t, []api.Slot{{Node: 1, At: 2}, {Node: 0, At: 0}}, Slots)
	moves := func(l []api.Move) []api.Move { m, _ := Moves(l); return m }
	keeps(t, []api.Move{{Arc: 1, At: 2, N: 3}, {Arc: 2, At: 1, N: 4}, {Arc: 1, At: 2, N: 5}, {Arc: 0, At: 0, N: 6}}, moves)
	keeps(t, []api.Move{{Arc: 1, At: 2, N: 3}, {Arc: 0, At: 0, N: 6}}, moves)
	keeps(t, []api.Move{{N: least}, {N: -1}, {Arc: 1, N: 6}}, moves)
}

func TestGroupsAreApart(t *testing.T) {
	l := []api.Arc{{From: 1}, {From: 2}, {From: 1}, {From: 3}, {From: 2}, {From: 1}}
	groups := Groups(l)
	for i := range groups {
		_ = append(groups[i], -1, -1, -1)
	}
	if want := "[[0 2 5] [1 4] [3]]"; fmt.Sprint(groups) != want {
		t.Errorf("C2: groups share memory: %v, want %s", groups, want)
	}
}

func TestResultsStayTheSame(t *testing.T) {
	arcs := edgeArcs()
	for range 20 {
		m, _ := Merge(arcs)
		n, _ := Merge(arcs)
		if !slices.Equal(m, n) || fmt.Sprint(Groups(arcs)) != fmt.Sprint(Groups(arcs)) {
			t.Fatal("R4: a call returned different results for the same list")
		}
	}
}

func TestExamples(t *testing.T) {
	l := []api.Arc{{From: 1, To: 2, Cap: 5, Time: 1}, {From: 0, To: 1, Cap: 3, Time: 2}, {From: 1, To: 2, Cap: 4, Time: 1}}
	if m, err := Merge(l); !slices.Equal(m, []api.Arc{{From: 0, To: 1, Cap: 3, Time: 2}, {From: 1, To: 2, Cap: 9, Time: 1}}) || err != api.OK {
		t.Errorf("Merge: %v %d", m, err)
	}
	if g := Groups(l); fmt.Sprint(g) != "[[0 2] [1]]" {
		t.Errorf("Groups: %v", g)
	}
	if m, err := Moves([]api.Move{{Arc: 0, At: 3, N: 2}, {Arc: 0, At: 3, N: -2}}); len(m) != 0 || err != api.OK {
		t.Errorf("Moves: %v %d", m, err)
	}
}
