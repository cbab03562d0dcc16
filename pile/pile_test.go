package pile

import (
	"math"
	"slices"
	"testing"

	"ebbtide/api"
)

const (
	greatest = math.MaxInt64
	smallest = math.MinInt64
)

// precedes is the chapter's 'comes before', told anew.
func precedes(a, b api.Pair) bool {
	return a.Key < b.Key || a.Key == b.Key && a.Item < b.Item
}

// ordered returns the pairs of l in their order, by putting each one in its
// place.
func ordered(l []api.Pair) []api.Pair {
	var out []api.Pair
	for _, x := range l {
		at := len(out)
		for at > 0 && precedes(x, out[at-1]) {
			at--
		}
		out = slices.Insert(out, at, x)
	}
	return out
}

// numbers returns a function that returns one number after the other, the same
// ones in each run.
func numbers(seed uint64) func(below int) int {
	return func(below int) int {
		seed = seed*6364136223846793005 + 1442695040888963407
		return int(seed>>33) % below
	}
}

// edgePairs returns equal pairs, pairs of equal keys and unlike items, and the
// least and the greatest numbers.
func edgePairs() []api.Pair {
	l := []api.Pair{{Key: 5, Item: 5}, {Key: 5, Item: 5}, {Key: 5, Item: -5}, {Key: -5, Item: 7}}
	for _, key := range []int{smallest, smallest + 1, -1, 0, 1, greatest - 1, greatest} {
		for _, item := range []int{greatest, 0, smallest} {
			l = append(l, api.Pair{Key: key, Item: item})
		}
	}
	return append(l, l[4], l[len(l)-1])
}

// orders returns all orders of the numbers from 0 to n - 1.
func orders(n int) [][]int {
	if n == 0 {
		return [][]int{nil}
	}
	var out [][]int
	for _, l := range orders(n - 1) {
		for at := range n {
			out = append(out, slices.Insert(slices.Clone(l), at, n-1))
		}
	}
	return out
}

func newPile(t *testing.T, most int) *Pile {
	t.Helper()
	p, err := New(most)
	if p == nil || err != api.OK {
		t.Fatalf("B1: New(%d): %v %d", most, p, err)
	}
	return p
}

func push(t *testing.T, p *Pile, l ...api.Pair) {
	t.Helper()
	for _, x := range l {
		n := p.Len()
		if err := p.Push(x); err != api.OK || p.Len() != n+1 {
			t.Fatalf("B2: Push(%v): %d, Len %d", x, err, p.Len())
		}
	}
}

// popAll fails unless the pairs of want, and no others, are popped.
func popAll(t *testing.T, p *Pile, want []api.Pair) {
	t.Helper()
	for i, x := range want {
		left := len(want) - i
		if y, err := p.Least(); y != x || err != api.OK || p.Len() != left {
			t.Fatalf("B3: Least: %v %d, Len %d, want %v, %d", y, err, p.Len(), x, left)
		}
		if y, err := p.Pop(); y != x || err != api.OK || p.Len() != left-1 {
			t.Fatalf("B3, B6: Pop: %v %d, Len %d, want %v, %d", y, err, p.Len(), x, left-1)
		}
	}
	isEmpty(t, p)
}

func isEmpty(t *testing.T, p *Pile) {
	t.Helper()
	if x, err := p.Least(); x != (api.Pair{}) || err != api.ErrEmpty {
		t.Errorf("B3: Least of nothing: %v %d", x, err)
	}
	if x, err := p.Pop(); x != (api.Pair{}) || err != api.ErrEmpty {
		t.Errorf("B3: Pop of nothing: %v %d", x, err)
	}
	if p.Len() != 0 {
		t.Errorf("B3: Len of nothing: %d", p.Len())
	}
}

func TestRooms(t *testing.T) {
	for _, most := range []int{0, 1, 2, 3, 1000, 1<<16 - 1, 1 << 16} {
		isEmpty(t, newPile(t, most))
		queueIsEmpty(t, newQueue(t, most))
	}
	for _, most := range []int{-1, -2, -1 << 16, -1 << 32, smallest, smallest + 1, 1<<16 + 1, 1 << 17, 1 << 32, 1<<32 + 1, greatest} {
		if p, err := New(most); p != nil || err != api.ErrArg {
			t.Errorf("B1: New(%d): %v %d", most, p, err)
		}
		if q, err := NewQueue(most); q != nil || err != api.ErrArg {
			t.Errorf("B4: NewQueue(%d): %v %d", most, q, err)
		}
	}
}

func TestWhatComesWithAnErrorDoesNotPanic(t *testing.T) {
	p, _ := New(-1)
	if err := p.Push(api.Pair{Key: 1, Item: 1}); err != api.ErrFull {
		t.Errorf("R1: Push: %d", err)
	}
	isEmpty(t, p)
	q, _ := NewQueue(-1)
	if err := q.Put(1); err != api.ErrFull {
		t.Errorf("R1: Put: %d", err)
	}
	queueIsEmpty(t, q)
}

func TestPileWithoutRoom(t *testing.T) {
	p := newPile(t, 0)
	if err := p.Push(api.Pair{Key: 1, Item: 1}); err != api.ErrFull {
		t.Errorf("B2: Push: %d", err)
	}
	isEmpty(t, p)
}

func TestFullPileStays(t *testing.T) {
	for _, most := range []int{1, 2, 3, 8, 25} {
		p := newPile(t, most)
		l := edgePairs()[:most]
		push(t, p, l...)
		for _, x := range []api.Pair{{}, {Key: smallest, Item: smallest}, {Key: greatest, Item: greatest}, l[0]} {
			if err := p.Push(x); err != api.ErrFull || p.Len() != most {
				t.Errorf("B2: Push(%v) into a full pile of %d: %d, Len %d", x, most, err, p.Len())
			}
		}
		popAll(t, p, ordered(l))
		// What is popped makes room again, and no more of it than there was.
		push(t, p, l...)
		if err := p.Push(api.Pair{}); err != api.ErrFull {
			t.Errorf("B2: Push into a pile of %d that is full again: %d", most, err)
		}
		popAll(t, p, ordered(l))
	}
}

func TestGreatestPile(t *testing.T) {
	const most = 1 << 16
	p := newPile(t, most)
	for i := range most {
		// The factor is odd, so that each key occurs once.
		push(t, p, api.Pair{Key: i * 40503 % most, Item: i})
	}
	if err := p.Push(api.Pair{Key: -1}); err != api.ErrFull || p.Len() != most {
		t.Errorf("B2: the pair after 2^16: %d, Len %d", err, p.Len())
	}
	for i := range most {
		if x, err := p.Pop(); x.Key != i || x.Item*40503%most != i || err != api.OK {
			t.Fatalf("B3: Pop %d: %v %d", i, x, err)
		}
	}
	isEmpty(t, p)
}

func TestPilePopsEdgesInOrder(t *testing.T) {
	l := edgePairs()
	want := ordered(l)
	for range len(l) {
		l = append(l[1:], l[0])
		p := newPile(t, len(l))
		push(t, p, l...)
		popAll(t, p, want)
	}
}

func TestPilePopsAllOrders(t *testing.T) {
	l := []api.Pair{{Key: -1, Item: 4}, {Key: 1, Item: 2}, {Key: 1, Item: 3}, {Key: 1, Item: 3}, {Key: 2, Item: -9}, {Key: 2, Item: 0}, {Key: 3, Item: -1}}
	for n := range len(l) + 1 {
		for _, order := range orders(n) {
			p := newPile(t, n)
			for _, i := range order {
				push(t, p, l[i])
			}
			popAll(t, p, l[:n])
		}
	}
}

func TestPushesAmongPops(t *testing.T) {
	next := numbers(2)
	for round := range 200 {
		most := next(20)
		p := newPile(t, most)
		var model []api.Pair
		for range 300 {
			if next(5) < 2+round%2 {
				x := api.Pair{Key: next(4) - 2, Item: next(4) - 2}
				want := api.ErrFull
				if len(model) < most {
					want = api.OK
					model = ordered(append(model, x))
				}
				if err := p.Push(x); err != want {
					t.Fatalf("B2: Push: %d, want %d", err, want)
				}
			} else if len(model) > 0 {
				if x, err := p.Pop(); x != model[0] || err != api.OK {
					t.Fatalf("B3: Pop: %v %d, want %v", x, err, model[0])
				}
				model = model[1:]
			} else {
				isEmpty(t, p)
			}
			if p.Len() != len(model) {
				t.Fatalf("B3: Len: %d, want %d", p.Len(), len(model))
			}
		}
		popAll(t, p, model)
	}
}

func TestListIsAPile(t *testing.T) {
	next := numbers(3)
	p := newPile(t, 100)
	for step := range 2000 {
		if next(5) < 3 && p.Len() < 100 {
			push(t, p, api.Pair{Key: next(10), Item: next(10)})
		} else {
			p.Pop()
		}
		for i := 2; i <= len(p.list); i++ {
			if precedes(p.list[i-1], p.list[i/2-1]) {
				t.Fatalf("Ways: step %d: the pair at %d comes before the one at %d", step, i, i/2)
			}
		}
	}
}

func TestPilesAreApart(t *testing.T) {
	p, q := newPile(t, 4), newPile(t, 4)
	push(t, p, api.Pair{Key: 2, Item: 2})
	push(t, q, api.Pair{Key: 1, Item: 1})
	push(t, p, api.Pair{Key: 3, Item: 3})
	popAll(t, q, []api.Pair{{Key: 1, Item: 1}})
	popAll(t, p, []api.Pair{{Key: 2, Item: 2}, {Key: 3, Item: 3}})
}

func TestSorted(t *testing.T) {
	for _, l := range [][]api.Pair{nil, {}} {
		if s := Sorted(l); len(s) != 0 {
			t.Errorf("B5: of no pair: %v", s)
		}
	}
	lists := [][]api.Pair{{{Key: 1, Item: 2}}, edgePairs(), ordered(edgePairs())}
	back := ordered(edgePairs())
	slices.Reverse(back)
	lists = append(lists, back)
	next := numbers(4)
	for n := range 120 {
		l := make([]api.Pair, n)
		for i := range l {
			l[i] = api.Pair{Key: next(9) - 4, Item: next(9) - 4}
		}
		lists = append(lists, l)
	}
	for _, l := range lists {
		if s, want := Sorted(l), ordered(l); !slices.Equal(s, want) {
			t.Errorf("B5: %v: %v, want %v", l, s, want)
		}
	}
}

func TestSortedOfMoreThanAPileHolds(t *testing.T) {
	const n = 1<<17 + 1
	l := make([]api.Pair, n)
	for i := range l {
		l[i] = api.Pair{Key: -i / 2, Item: -i}
	}
	s := Sorted(l)
	if len(s) != n {
		t.Fatalf("B5: %d of %d pairs", len(s), n)
	}
	for i, x := range s {
		if x != l[n-1-i] {
			t.Fatalf("B5: place %d: %v", i, x)
		}
	}
}

func TestSortedLeavesItsArgument(t *testing.T) {
	l := []api.Pair{{Key: 3, Item: 1}, {Key: 1, Item: 2}, {Key: 1, Item: 1}, {Key: -7, Item: 0}}
	was := slices.Clone(l)
	s := Sorted(l[:3])
	for i := range s {
		s[i] = api.Pair{Key: 99, Item: 99}
	}
	_ = append(s, api.Pair{Key: 98, Item: 98})
	if !slices.Equal(l, was) {
		t.Errorf("R3: %v became %v", was, l)
	}
}

func TestExamples(t *testing.T) {
	p := newPile(t, 3)
	push(t, p, api.Pair{Key: 3, Item: 1}, api.Pair{Key: 1, Item: 2}, api.Pair{Key: 1, Item: 1})
	popAll(t, p, []api.Pair{{Key: 1, Item: 1}, {Key: 1, Item: 2}, {Key: 3, Item: 1}})
	q := newQueue(t, 1)
	if q.Put(5) != api.OK || q.Put(6) != api.ErrFull {
		t.Error("Put")
	}
	if n, err := q.Take(); n != 5 || err != api.OK {
		t.Errorf("Take: %d %d", n, err)
	}
	if n, err := q.Take(); n != 0 || err != api.ErrEmpty {
		t.Errorf("Take of nothing: %d %d", n, err)
	}
}
