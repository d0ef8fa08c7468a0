// Package line holds what is fed to a line until it is read, and reads messages from it.
package line

import (
	"slices"

	"tiller/api"
)

// size is how many bytes a message has, and salt what its last one is made with.
const (
	size = 4
	salt = 85
)

// Line holds the bytes that are not read yet, the oldest first.
type Line struct {
	unread []fed
}

// fed is a byte with the tick at which it was fed: what is fed ahead of its time must wait for it.
type fed struct {
	value byte
	at    int
}

// Message is of a task, or of none; its At is the tick at which its last byte was fed.
type Message struct {
	Task, Cost, At int
}

// Feed holds as much of b as there is place for, and tells how many bytes spill.
// No tick may be below that of an earlier Feed: Read leans on it.
func (l *Line) Feed(at int, b []byte) int {
	fits := min(len(b), api.MaxRing-len(l.unread))
	for _, value := range b[:fits] {
		l.unread = append(l.unread, fed{value, at})
	}
	return len(b) - fits
}

// Read reads what was fed at ticks up to t; it gives the messages, and how many bytes were bad.
func (l *Line) Read(t int) ([]Message, int) {
	var messages []Message
	bad := 0
	ready := l.fedBy(t)
	rest := l.unread[:ready]
	for len(rest) > 0 && !unfinished(rest) {
		if isMessage(rest) {
			messages = append(messages, message(rest))
			rest = rest[size:]
		} else {
			bad++
			rest = rest[1:]
		}
	}
	l.unread = slices.Delete(l.unread, 0, ready-len(rest))
	return messages, bad
}

// Held is how many bytes are not read yet.
func (l *Line) Held() int {
	return len(l.unread)
}

// fedBy is how many of the unread bytes were fed at ticks up to t.
func (l *Line) fedBy(t int) int {
	n := 0
	for n < len(l.unread) && l.unread[n].at <= t {
		n++
	}
	return n
}

// unfinished tells whether more bytes must come ahead of knowing what b begins with.
func unfinished(b []fed) bool {
	return b[0].value == api.Flag && len(b) < size
}

func isMessage(b []fed) bool {
	if len(b) < size {
		return false
	}
	task, cost, check := b[1].value, b[2].value, b[3].value
	return b[0].value == api.Flag && cost != 0 && check == task^cost^salt
}

func message(b []fed) Message {
	return Message{Task: int(b[1].value), Cost: int(b[2].value), At: b[size-1].at}
}
