package tiller_test

import (
	"slices"
	"testing"

	"tiller/api"
	"tiller/tiller"
)

// several has two lines and three tasks; of Due the least is the last one's.
func several() api.Config {
	return api.Config{Lines: 2, Room: 3, Poll: 2, Idle: 3, Switch: 1, Tasks: []api.Task{
		{Cost: 5, Due: 100, Limits: limited(20, 1)},
		{Cost: 9, Due: 70, Limits: limited(30, 1)},
		{Cost: 4, Due: 40, Limits: limited(30, 1)},
	}}
}

// quick has rounds of one tick where nothing waits, and much room.
func quick() api.Config {
	return api.Config{Lines: 4, Room: 40, Poll: 1, Tasks: []api.Task{
		{Cost: 1, Due: 100, Limits: limited(1, 1)},
		{Cost: 1, Due: 50, Limits: limited(1, 1)},
	}}
}

func started(t *testing.T, c api.Config) *tiller.Exec {
	t.Helper()
	x, e := tiller.New(c)
	if x == nil || e != api.OK {
		t.Fatalf("New(%+v) = %v, %d, want an executive", c, x, e)
	}
	return x
}

// message gives the bytes of one, whether there is such a task or not.
func message(task, cost byte) []byte {
	return []byte{126, task, cost, task ^ cost ^ 85}
}

func messages(n int, task, cost byte) []byte {
	return slices.Repeat(message(task, cost), n)
}

func wantFeed(t *testing.T, x *tiller.Exec, want api.Errno, line, at int, b ...byte) {
	t.Helper()
	if e := x.Feed(line, at, b); e != want {
		t.Errorf("Feed(%d, %d, %v) = %d, want %d", line, at, b, e, want)
	}
}

func wantRun(t *testing.T, x *tiller.Exec, until int, want ...api.Event) {
	t.Helper()
	if l := x.Run(until); !slices.Equal(l, want) {
		t.Errorf("Run(%d) = %+v, want %+v", until, l, want)
	}
}

func wantCounts(t *testing.T, x *tiller.Exec, want api.Counts) {
	t.Helper()
	if c := x.Counts(); c != want {
		t.Errorf("Counts = %+v, want %+v", c, want)
	}
}

func begun(at, job, task, deadline int) api.Event {
	return api.Event{Kind: api.Begun, At: at, Job: job, Task: task, Deadline: deadline}
}

func done(at, job, task, deadline int) api.Event {
	return api.Event{Kind: api.Done, At: at, Job: job, Task: task, Deadline: deadline}
}

func lost(at, task, deadline int) api.Event {
	return api.Event{Kind: api.Lost, At: at, Job: -1, Task: task, Deadline: deadline}
}

// slow gives c with rounds of 40 ticks where nothing waits, so that much comes between two of them.
func slow(c api.Config) api.Config {
	c.Poll, c.Idle = 20, 20
	return c
}
