// Package rounds does the work of an executive: what is fed to it, and its rounds.
package rounds

import (
	"tiller/api"
	"tiller/jobs"
	"tiller/line"
)

// never is the Job of what was lost: it has come to no number.
const never = -1

// State is how things are between two rounds. It is for one goroutine at a time.
type State struct {
	room               int
	poll, idle, change int
	dues               []int // of each task
	lines              []line.Line
	waiting            jobs.Queue
	lastFed            int        // the tick below which nothing is fed any more
	counts             api.Counts // but for Waiting and Held, which are counted when asked for
}

// Start gives the state at the tick 0 under c, which must be valid.
func Start(c api.Config) State {
	s := State{room: c.Room, poll: c.Poll, idle: c.Idle, change: c.Switch}
	s.lines = make([]line.Line, c.Lines)
	for _, t := range c.Tasks {
		s.dues = append(s.dues, t.Due)
	}
	return s
}

// Feed feeds b to line n at a tick, or refuses to.
func (s *State) Feed(n int, at int, b []byte) api.Errno {
	if n < 0 || n >= len(s.lines) {
		return api.ErrLine
	}
	if at < s.counts.Clock || at < s.lastFed || at >= api.MaxTime {
		return api.ErrTime
	}
	s.lastFed = at
	s.counts.Spilled += s.lines[n].Feed(at, b)
	return api.OK
}

// Run does rounds, and gives what happened in them.
func (s *State) Run(until int) []api.Event {
	var events []api.Event
	for s.counts.Clock < min(until, api.MaxClock) {
		events = s.round(events)
	}
	return events
}

// Counts tells how things are.
func (s *State) Counts() api.Counts {
	c := s.counts
	c.Waiting = s.waiting.Len()
	for i := range s.lines {
		c.Held += s.lines[i].Held()
	}
	return c
}

// round puts what happens in one round behind events.
func (s *State) round(events []api.Event) []api.Event {
	events = s.read(events)
	s.counts.Clock += s.poll
	if s.waiting.Len() == 0 {
		s.counts.Clock += s.idle
		return events
	}
	return s.work(events)
}

// read reads all lines as they are when the round begins.
func (s *State) read(events []api.Event) []api.Event {
	for i := range s.lines {
		messages, bad := s.lines[i].Read(s.counts.Clock)
		s.counts.Bad += bad
		for _, m := range messages {
			events = s.take(m, events)
		}
	}
	return events
}

// take lets a message's job wait, if it is one and there is room.
func (s *State) take(m line.Message, events []api.Event) []api.Event {
	if m.Task >= len(s.dues) {
		s.counts.Unknown++
		return events
	}
	j := jobs.Job{Number: s.counts.Jobs, Task: m.Task, Cost: m.Cost, Deadline: m.At + s.dues[m.Task]}
	if s.waiting.Len() >= s.room {
		s.counts.Lost++
		j.Number = never
		return append(events, s.event(api.Lost, j))
	}
	s.counts.Jobs++
	s.waiting.Put(j)
	return events
}

// work does the job that must be done first, to its end.
func (s *State) work(events []api.Event) []api.Event {
	j := s.waiting.Take()
	events = append(events, s.event(api.Begun, j))
	s.counts.Clock += s.change + j.Cost
	s.counts.Done++
	return append(events, s.event(api.Done, j))
}

// event is of what happens now.
func (s *State) event(kind int, j jobs.Job) api.Event {
	return api.Event{Kind: kind, At: s.counts.Clock, Job: j.Number, Task: j.Task, Deadline: j.Deadline}
}
