package tiller_test

import (
	"slices"
	"testing"

	"tiller/api"
	"tiller/tiller"
)

// coming is a message: each of its bytes is fed at a tick of its own, and it comes with the last one.
type coming struct {
	task, cost int
	ticks      [4]int
}

func whole(task, cost, at int) coming {
	return coming{task, cost, [4]int{at, at, at, at}}
}

func (c coming) at() int {
	return c.ticks[3]
}

// allowed tells whether the limits let one more come at a tick behind those of the past.
func allowed(task api.Task, past []int, at int) bool {
	for _, l := range task.Limits {
		if n := len(past); n >= l.Count && past[n-l.Count] > at-l.Window {
			return false
		}
	}
	return true
}

// dense lets come of each task, from a tick of its own on, as much as its limits allow, as soon as they do.
func dense(c api.Config, from []int) []coming {
	return comingsOf(c, func(task, at int) bool { return at >= from[task] })
}

// comingsOf lets come as much as the limits allow at the ticks that are open to a task.
func comingsOf(c api.Config, open func(task, at int) bool) []coming {
	var all []coming
	past := make([][]int, len(c.Tasks))
	for at := range api.MaxTime {
		for i, task := range c.Tasks {
			for is := open(i, at); is && allowed(task, past[i], at); {
				past[i] = append(past[i], at)
				all = append(all, whole(i, task.Cost, at))
			}
		}
	}
	return all
}

// withPauses lets come as much as the limits allow, but for the times at which nothing of a task comes.
func (m *mixed) withPauses(c api.Config) []coming {
	pause := make([]int, len(c.Tasks))
	return comingsOf(c, func(task, at int) bool {
		if m.from(0, 99) == 0 {
			pause[task] = at + m.from(0, 100)
		}
		return at >= pause[task]
	})
}

// cheaper lets half of the jobs cost less than their tasks say.
func (m *mixed) cheaper(all []coming) {
	for i := range all {
		if m.from(0, 1) == 0 {
			all[i].cost = m.from(1, all[i].cost)
		}
	}
}

// cut lets half of the messages come in pieces. They go to the lines by turns: the first piece
// comes no sooner than the message ahead on the same line does, so that neither spoils the other.
func (m *mixed) cut(all []coming, lines int) {
	for i := range all {
		ahead := 0
		if i >= lines {
			ahead = all[i-lines].at()
		}
		if m.from(0, 1) == 0 {
			for k := 2; k >= 0; k-- {
				all[i].ticks[k] = m.from(max(ahead, all[i].ticks[k+1]-m.from(0, 40)), all[i].ticks[k+1])
			}
		}
	}
}

// aByte is the byte of a message that stands at a place in it.
type aByte struct {
	tick, message, place int
}

// feeder feeds messages to an executive, ahead of the rounds in which they come.
type feeder struct {
	c     api.Config
	x     *tiller.Exec
	all   []coming
	bytes []aByte // still to be fed, by their ticks
	ats   [][]int // of each line: when the messages come that were not read yet
	full  []bool  // of each message: whether its line had no place for it
	came  [][]int // of each task: when its messages come
}

func newFeeder(t *testing.T, c api.Config, all []coming) *feeder {
	t.Helper()
	f := &feeder{c: c, x: started(t, c), all: all}
	f.ats = make([][]int, c.Lines)
	f.full = make([]bool, len(all))
	f.came = make([][]int, len(c.Tasks))
	for i, m := range all {
		for place, tick := range m.ticks {
			f.bytes = append(f.bytes, aByte{tick, i, place})
		}
	}
	slices.SortStableFunc(f.bytes, func(a, b aByte) int { return a.tick - b.tick })
	return f
}

// feed feeds all bytes whose ticks are below the last one. A message that would be spilled does not come.
func (f *feeder) feed(t *testing.T, last int) {
	t.Helper()
	for ; len(f.bytes) > 0 && f.bytes[0].tick < last; f.bytes = f.bytes[1:] {
		b := f.bytes[0]
		m := f.all[b.message]
		line := b.message % f.c.Lines
		if b.place == 0 {
			f.full[b.message] = len(f.ats[line]) == 8
			if !f.full[b.message] {
				f.ats[line] = append(f.ats[line], m.at())
				f.came[m.task] = append(f.came[m.task], m.at())
			}
		}
		if !f.full[b.message] {
			wantFeed(t, f.x, api.OK, line, b.tick, message(byte(m.task), byte(m.cost))[b.place])
		}
	}
}

// round feeds what may come while a round goes on, and lets it go on.
func (f *feeder) round(t *testing.T) []api.Event {
	t.Helper()
	clock := f.x.Counts().Clock
	f.feed(t, clock+longestOf(f.c))
	events := f.x.Run(clock + 1)
	if f.x.Counts().Clock <= clock {
		t.Fatalf("%+v: no round at %d", f.c, clock)
	}
	for line := range f.ats {
		f.ats[line] = slices.DeleteFunc(f.ats[line], func(at int) bool { return at <= clock })
	}
	return events
}

// run does rounds till all that can come is long done; it gives what happened.
func (f *feeder) run(t *testing.T) []api.Event {
	t.Helper()
	var events []api.Event
	for f.x.Counts().Clock < 2000 {
		events = append(events, f.round(t)...)
	}
	for _, ats := range f.came {
		slices.Sort(ats)
	}
	return events
}

func longestOf(c api.Config) int {
	longest := c.Poll + c.Idle
	for _, task := range c.Tasks {
		longest = max(longest, c.Poll+c.Switch+task.Cost)
	}
	return longest
}
