package tiller_test

import (
	"slices"
	"testing"

	"tiller/api"
	"tiller/tiller"
)

// wantInTime lets messages come to a configuration that fits, and asks of each what P9 promises.
// It gives of each task the most ticks from a message's last byte till its job was done.
func wantInTime(t *testing.T, c api.Config, all []coming) []int {
	t.Helper()
	bounds, ok := fits(c)
	if !ok {
		t.Fatalf("%+v does not fit", c)
	}
	f := newFeeder(t, c, all)
	events := f.run(t)
	jobs := 0
	for i, ats := range f.came {
		wantWithinLimits(t, c.Tasks[i], ats)
		jobs += len(ats)
	}
	n := f.x.Counts()
	if want := (api.Counts{Clock: n.Clock, Jobs: jobs, Done: jobs}); n != want {
		t.Fatalf("%+v: Counts = %+v, want %+v", c, n, want)
	}
	return wantDoneInTime(t, c, bounds, f.came, events)
}

// wantDoneInTime asks of each task for one job done of each that came, none of them too late.
func wantDoneInTime(t *testing.T, c api.Config, bounds []int, came [][]int, events []api.Event) []int {
	t.Helper()
	takes := make([]int, len(c.Tasks))
	next := make([]int, len(c.Tasks))
	for _, e := range events {
		if e.Kind != api.Done {
			continue
		}
		if next[e.Task] == len(came[e.Task]) {
			t.Fatalf("%+v: never came: %+v", c, e)
		}
		// Of one task what comes first has the least deadline, so that it is done first.
		at := came[e.Task][next[e.Task]]
		next[e.Task]++
		due := c.Tasks[e.Task].Due
		if e.At > at+bounds[e.Task] || e.At > at+due || e.Deadline != at+due {
			t.Fatalf("%+v: bounds %v, came at %d, but %+v", c, bounds, at, e)
		}
		takes[e.Task] = max(takes[e.Task], e.At-at)
	}
	return takes
}

// wantWithinLimits asks the test itself whether it keeps to what P9 supposes.
func wantWithinLimits(t *testing.T, task api.Task, ats []int) {
	t.Helper()
	for _, l := range task.Limits {
		for _, first := range ats {
			n := 0
			for _, at := range ats {
				if at >= first && at < first+l.Window {
					n++
				}
			}
			if n > l.Count {
				t.Fatalf("%+v: %d come from %d on", task, n, first)
			}
		}
	}
}

func fits(c api.Config) ([]int, bool) {
	r, e := tiller.Check(c)
	return r.Bounds, e == api.OK && r.What == api.Fits
}

// costly makes configurations with greater prices than config does.
func (m *mixed) costly() api.Config {
	c := api.Config{Lines: m.from(1, 4), Room: 40, Poll: m.from(1, 20), Idle: m.from(0, 20), Switch: m.from(0, 20)}
	for range m.from(1, 6) {
		c.Tasks = append(c.Tasks, api.Task{Cost: m.from(1, 50), Due: m.from(100, 400), Limits: m.limits()})
	}
	return c
}

// fitting makes configurations till one fits.
func fitting(t *testing.T, makeUp func() api.Config) api.Config {
	t.Helper()
	for range 10000 {
		c := makeUp()
		if _, ok := fits(c); ok {
			return c
		}
	}
	t.Fatal("nothing fits")
	return api.Config{}
}

// tightened gives c with each Due and the Room as small as they can be for it to fit still.
func tightened(c api.Config) api.Config {
	c.Tasks = slices.Clone(c.Tasks)
	for i := range c.Tasks {
		for step := 256; step > 0; step /= 2 {
			c.Tasks[i].Due -= step
			if _, ok := fits(c); !ok {
				c.Tasks[i].Due += step
			}
		}
	}
	r, _ := tiller.Check(c)
	c.Room = r.Need
	return c
}

// worstOf gives messages that come as often and as close together as the limits let them: from the
// first round on; just behind the beginning of an idle round; and just behind that of a round that
// does a job of one task, whichever that is.
func worstOf(c api.Config) [][]coming {
	from := make([]int, len(c.Tasks))
	worst := [][]coming{dense(c, from)}
	begins := 3 * (c.Poll + c.Idle)
	for i := range from {
		from[i] = begins + 1
	}
	worst = append(worst, dense(c, from))
	for i := range from {
		from[i] = begins
		worst = append(worst, dense(c, from))
		from[i] = begins + 1
	}
	return worst
}

func TestP9MadeUpMessages(t *testing.T) {
	var m mixed
	for _, makeUp := range []func() api.Config{m.config, m.costly} {
		for range 80 {
			c := fitting(t, makeUp)
			for range 2 {
				all := m.withPauses(c)
				wantInTime(t, c, all)
				m.cheaper(all)
				m.cut(all, c.Lines)
				wantInTime(t, c, all)
			}
		}
	}
}

// At the least Due and Room with which it fits a job that is one tick later, or one job more that
// waits, is one too many. That the messages are bad enough is seen by how many bounds they reach.
func TestP9JustInTime(t *testing.T) {
	var m mixed
	just, reached := 0, 0
	for _, makeUp := range []func() api.Config{m.config, m.costly} {
		for range 80 {
			c := tightened(fitting(t, makeUp))
			bounds, _ := fits(c)
			most := make([]int, len(c.Tasks))
			for _, all := range worstOf(c) {
				for i, takes := range wantInTime(t, c, all) {
					most[i] = max(most[i], takes)
				}
				m.cut(all, c.Lines)
				wantInTime(t, c, all)
			}
			for i, task := range c.Tasks {
				if bounds[i] == task.Due {
					just++
				}
				if bounds[i] == most[i] {
					reached++
				}
			}
		}
	}
	if just < 160 || reached < 100 {
		t.Errorf("only %d bounds are just the Due, and only %d were reached", just, reached)
	}
}
