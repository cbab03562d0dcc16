package pile

import "ebbtide/api"

// Queue is a first-in first-out queue. The nil that NewQueue returns with an
// error behaves as a queue without room.
type Queue struct {
	most int
	ring []int
	// How many numbers were put and taken, modulo 2^32. Their difference is
	// right even after a count has wrapped, since it is at most maxRoom.
	put, taken uint32
}

// NewQueue returns an empty queue with room for most numbers.
func NewQueue(most int) (*Queue, api.Errno) {
	if !isRoom(most) {
		return nil, api.ErrArg
	}
	return &Queue{most: most, ring: make([]int, ringSize(most))}, api.OK
}

// ringSize returns the least power of two that is not less than most.
func ringSize(most int) int {
	size := 1
	for size < most {
		size <<= 1
	}
	return size
}

// Len returns the number of numbers.
func (q *Queue) Len() int {
	if q == nil {
		return 0
	}
	return int(q.put - q.taken)
}

// Put appends n, or changes nothing if there is no room.
func (q *Queue) Put(n int) api.Errno {
	if q == nil || q.Len() >= q.most {
		return api.ErrFull
	}
	q.ring[q.place(q.put)] = n
	q.put++
	return api.OK
}

// Take returns the first number, and removes it.
func (q *Queue) Take() (int, api.Errno) {
	if q.Len() == 0 {
		return 0, api.ErrEmpty
	}
	n := q.ring[q.place(q.taken)]
	q.taken++
	return n, api.OK
}

// place returns the position in the ring that belongs to a count. The size of
// the ring divides 2^32, so that a count that wraps goes on to the next place.
func (q *Queue) place(count uint32) int {
	return int(count) & (len(q.ring) - 1)
}
