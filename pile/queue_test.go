package pile

import (
	"math"
	"testing"

	"ebbtide/api"
)

func newQueue(t *testing.T, most int) *Queue {
	t.Helper()
	q, err := NewQueue(most)
	if q == nil || err != api.OK {
		t.Fatalf("B4: NewQueue(%d): %v %d", most, q, err)
	}
	return q
}

func put(t *testing.T, q *Queue, l ...int) {
	t.Helper()
	for _, n := range l {
		was := q.Len()
		if err := q.Put(n); err != api.OK || q.Len() != was+1 {
			t.Fatalf("B4: Put(%d): %d, Len %d", n, err, q.Len())
		}
	}
}

// take fails unless the numbers of want are taken, one after the other.
func take(t *testing.T, q *Queue, want ...int) {
	t.Helper()
	for _, n := range want {
		was := q.Len()
		if k, err := q.Take(); k != n || err != api.OK || q.Len() != was-1 {
			t.Fatalf("B4, B6: Take: %d %d, Len %d, want %d, %d", k, err, q.Len(), n, was-1)
		}
	}
}

func queueIsEmpty(t *testing.T, q *Queue) {
	t.Helper()
	if n, err := q.Take(); n != 0 || err != api.ErrEmpty || q.Len() != 0 {
		t.Errorf("B4: Take of nothing: %d %d, Len %d", n, err, q.Len())
	}
}

// queueIsFull fails unless a number is refused.
func queueIsFull(t *testing.T, q *Queue, most int) {
	t.Helper()
	if err := q.Put(-77); err != api.ErrFull || q.Len() != most {
		t.Errorf("B4: Put into a full queue of %d: %d, Len %d", most, err, q.Len())
	}
}

func TestQueueWithoutRoom(t *testing.T) {
	q := newQueue(t, 0)
	queueIsFull(t, q, 0)
	queueIsEmpty(t, q)
}

func TestQueueOfOne(t *testing.T) {
	q := newQueue(t, 1)
	for n := range 1000 {
		put(t, q, n-500)
		queueIsFull(t, q, 1)
		take(t, q, n-500)
		queueIsEmpty(t, q)
	}
}

func TestFullQueueStays(t *testing.T) {
	l := []int{greatest, smallest, 0, 0, -1, 1, 7, 7, smallest + 1, greatest - 1, 42}
	for most := 1; most <= len(l); most++ {
		q := newQueue(t, most)
		for range 5 {
			put(t, q, l[:most]...)
			queueIsFull(t, q, most)
			queueIsFull(t, q, most)
			take(t, q, l[:most]...)
			queueIsEmpty(t, q)
		}
	}
}

func TestQueueGoesRound(t *testing.T) {
	for _, most := range []int{1, 2, 3, 4, 5, 7, 8, 9, 100} {
		for held := range most {
			q := newQueue(t, most)
			for n := range held {
				put(t, q, n)
			}
			for n := range 10 * most {
				put(t, q, held+n)
				take(t, q, n)
			}
			if q.Len() != held {
				t.Errorf("B4: Len %d, want %d", q.Len(), held)
			}
		}
	}
}

func TestGreatestQueue(t *testing.T) {
	const most = 1 << 16
	q := newQueue(t, most)
	for n := range most {
		put(t, q, n)
	}
	queueIsFull(t, q, most)
	// A full queue goes round more often than 2^16 times.
	for n := range 3 * most {
		take(t, q, n)
		put(t, q, n+most)
		queueIsFull(t, q, most)
	}
	for n := range most {
		take(t, q, n+3*most)
	}
	queueIsEmpty(t, q)
}

func TestCountsOfAQueueWrap(t *testing.T) {
	for _, most := range []int{1, 2, 3, 5, 8, 1000, 1 << 16} {
		q := newQueue(t, most)
		// So many numbers were put and taken that few are left up to 2^32.
		q.put, q.taken = math.MaxUint32-1, math.MaxUint32-1
		for n := range most {
			put(t, q, n)
		}
		queueIsFull(t, q, most)
		for n := range 10 {
			take(t, q, n)
			put(t, q, most+n)
		}
		for n := range most {
			take(t, q, n+10)
		}
		queueIsEmpty(t, q)
	}
}

func TestPutsAmongTakes(t *testing.T) {
	next := numbers(5)
	for round := range 200 {
		most := next(20)
		q := newQueue(t, most)
		var model []int
		for range 300 {
			switch {
			case next(5) >= 2+round%2:
				if len(model) == 0 {
					queueIsEmpty(t, q)
					continue
				}
				take(t, q, model[0])
				model = model[1:]
			case len(model) == most:
				queueIsFull(t, q, most)
			default:
				n := next(1000) - 500
				put(t, q, n)
				model = append(model, n)
			}
		}
		take(t, q, model...)
		queueIsEmpty(t, q)
	}
}

func TestQueuesAreApart(t *testing.T) {
	q, r := newQueue(t, 2), newQueue(t, 2)
	put(t, q, 1)
	put(t, r, 2)
	put(t, q, 3)
	take(t, r, 2)
	queueIsEmpty(t, r)
	take(t, q, 1, 3)
	queueIsEmpty(t, q)
}
