package tiller_test

import (
	"testing"

	"tiller/api"
	"tiller/tiller"
)

// coming is a message that may come: the limits of its task leave room for it.
type coming struct {
	at, task, cost int
}

// comingsOf makes up what comes, tick by tick, of each task as much as its limits allow, but for
// the times at which nothing of it comes.
func (m *mixed) comingsOf(c api.Config) []coming {
	var all []coming
	past := make([][]int, len(c.Tasks))
	pause := make([]int, len(c.Tasks))
	for at := range api.MaxTime {
		for i, task := range c.Tasks {
			if m.from(0, 99) == 0 {
				pause[i] = at + m.from(0, 100)
			}
			for at >= pause[i] && allowed(task, past[i], at) {
				past[i] = append(past[i], at)
				all = append(all, coming{at, i, task.Cost - m.from(0, 1)*m.from(0, task.Cost-1)})
			}
		}
	}
	return all
}

// allowed tells whether one more may come at a tick behind those of the past.
func allowed(task api.Task, past []int, at int) bool {
	for _, l := range task.Limits {
		if n := len(past); n >= l.Count && past[n-l.Count] > at-l.Window {
			return false
		}
	}
	return true
}

// wantInTime feeds what comes and runs round by round; it gives how many jobs are done.
func wantInTime(t *testing.T, c api.Config, bounds []int, all []coming) int {
	t.Helper()
	x := started(t, c)
	longest := c.Poll + c.Idle
	for _, task := range c.Tasks {
		longest = max(longest, c.Poll+c.Switch+task.Cost)
	}
	for clock := 0; clock < 2000; clock = x.Counts().Clock {
		// What comes while the round goes on must be fed ahead of it.
		for i := 0; len(all) > 0 && all[0].at < clock+longest; i++ {
			// What would be spilled does not come at all: so there is less than the limits allow.
			if x.Counts().Held <= 28 {
				wantFeed(t, x, api.OK, i%c.Lines, all[0].at, message(byte(all[0].task), byte(all[0].cost))...)
			}
			all = all[1:]
		}
		wantEventsInTime(t, c, bounds, x.Run(clock+1))
	}
	n := x.Counts()
	if want := (api.Counts{Clock: n.Clock, Jobs: n.Jobs, Done: n.Jobs}); n != want {
		t.Fatalf("%+v: Counts = %+v, want %+v", c, n, want)
	}
	return n.Done
}

func wantEventsInTime(t *testing.T, c api.Config, bounds []int, events []api.Event) {
	t.Helper()
	for _, e := range events {
		if e.Kind == api.Lost || e.Kind == api.Done && (e.At > e.Deadline || e.At > e.Deadline-c.Tasks[e.Task].Due+bounds[e.Task]) {
			t.Fatalf("%+v: bounds %v, but %+v", c, bounds, e)
		}
	}
}

func TestP9InTime(t *testing.T) {
	var m mixed
	fits, jobs := 0, 0
	for fits < 100 {
		c := m.config()
		r, e := tiller.Check(c)
		if e != api.OK || r.What != api.Fits {
			continue
		}
		fits++
		jobs += wantInTime(t, c, r.Bounds, m.comingsOf(c))
	}
	if jobs < 10*fits {
		t.Errorf("only %d jobs of %d configurations", jobs, fits)
	}
}
