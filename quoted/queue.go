package quoted

import "winkle/api"

// room is for all blanks that may wait, a byte 13 behind them and the byte with which these are known.
const room = api.MaxBlanks + 2

// queue is bytes in order that were not told: first those that are known, then blanks that wait.
type queue struct {
	bytes [room]byte // behind its last place the first one follows
	first int
	count int
	known int // how many of them, from the first one on
}

// add lays a byte behind the others.
func (q *queue) add(b byte) {
	q.bytes[(q.first+q.count)%room] = b
	q.count++
}

// wait lays a blank behind the others; of more than MaxBlanks that wait, the first one is known.
func (q *queue) wait(b byte) {
	q.add(b)
	if q.count-q.known > api.MaxBlanks {
		q.known++
	}
}

// know makes known what waits, and bytes behind it.
func (q *queue) know(more ...byte) {
	for _, b := range more {
		q.add(b)
	}
	q.known = q.count
}

// drop lets go of the blanks that wait.
func (q *queue) drop() { q.count = q.known }

// take takes the first byte out; there must be one.
func (q *queue) take() byte {
	b := q.bytes[q.first]
	q.first = (q.first + 1) % room
	q.count--
	q.known--
	return b
}
