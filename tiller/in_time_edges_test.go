package tiller_test

import (
	"slices"
	"testing"

	"tiller/api"
)

// idling has idle rounds of 9 ticks, a tick longer than those that do a job; its bound is 9 + 8 - 1.
func idling(due int) api.Config {
	return changed(func(c *api.Config) { c.Lines, c.Idle, c.Tasks[0].Due = 2, 7, due })
}

// A bound that is just the Due: what comes a tick behind the beginning of an idle round is done at its deadline.
func TestP9BoundIsTheDue(t *testing.T) {
	wantReport(t, idling(16), api.Fits, 1, 16)
	x := started(t, idling(16))
	wantFeed(t, x, api.OK, 0, 1, message(0, 5)...)
	wantRun(t, x, 17, begun(11, 0, 0, 17), done(17, 0, 0, 17))
	wantFeed(t, x, api.OK, 1, 21, message(0, 5)...)
	wantRun(t, x, 37, begun(28, 1, 0, 37), done(34, 1, 0, 37))
}

// With a Due that is a tick less it does not fit, and the same job is late.
func TestP9DueBelowTheBound(t *testing.T) {
	wantReport(t, idling(15), api.Late, 1, 16)
	x := started(t, idling(15))
	wantFeed(t, x, api.OK, 0, 1, message(0, 5)...)
	wantRun(t, x, 17, begun(11, 0, 0, 16), done(17, 0, 0, 16))
}

// Whenever one message comes, and whatever it costs, up to the task's Cost.
func TestP9OneMessage(t *testing.T) {
	for at := range api.MaxTime {
		for cost := 1; cost <= 5; cost++ {
			round := (at + 8) / 9 * 9
			takes := round - at + 3 + cost
			if got := wantInTime(t, idling(16), []coming{whole(0, cost, at)}); got[0] != takes {
				t.Errorf("came at %d: took %d ticks, want %d", at, got[0], takes)
			}
		}
	}
}

// What comes at the tick 0 is read in the first round: no round is ahead of it.
func TestP9FirstRound(t *testing.T) {
	x := started(t, idling(16))
	wantFeed(t, x, api.OK, 0, 0, message(0, 5)...)
	wantRun(t, x, 1, begun(2, 0, 0, 16), done(8, 0, 0, 16))
	wantInTime(t, idling(16), dense(idling(16), []int{0}))
}

// bursts has more to do than there is time: each 111 ticks 7 jobs come that take 133, so that from
// the first round on, at which the first ones come, those of the last tick of all are the latest.
func bursts() api.Config {
	return api.Config{Lines: 2, Room: 28, Poll: 1, Tasks: []api.Task{{Cost: 18, Due: 349, Limits: limited(111, 7)}}}
}

func TestP9FromTheFirstRoundToTheLastTick(t *testing.T) {
	wantReport(t, bursts(), api.Fits, 28, 349)
	all := dense(bursts(), []int{0})
	if last := all[len(all)-1]; len(all) != 70 || last.at() != 999 {
		t.Fatalf("%d messages, the last one %+v", len(all), last)
	}
	var want []api.Event
	for i := range 70 {
		deadline := 111*(i/7) + 349
		want = append(want, begun(19*i+1, i, 0, deadline), done(19*i+19, i, 0, deadline))
	}
	if events := newFeeder(t, bursts(), all).run(t); !slices.Equal(events, want) {
		t.Errorf("Run = %+v, want %+v", events, want)
	}
	if got := wantInTime(t, bursts(), all); got[0] != 70*19-999 {
		t.Errorf("took %d ticks, want %d", got[0], 70*19-999)
	}
}

// A Room that is just enough: in an idle round of 22 ticks two messages come, and wait at its end.
func TestP9RoomJustEnough(t *testing.T) {
	narrow := func(room int) api.Config {
		return changed(func(c *api.Config) { c.Idle, c.Room, c.Tasks[0].Due = 20, room, 29 })
	}
	wantReport(t, narrow(2), api.Fits, 2, 29)
	x := started(t, narrow(2))
	wantFeed(t, x, api.OK, 0, 1, message(0, 5)...)
	wantFeed(t, x, api.OK, 0, 21, message(0, 5)...)
	wantRun(t, x, 31, begun(24, 0, 0, 30), done(30, 0, 0, 30), begun(32, 1, 0, 50), done(38, 1, 0, 50))

	wantReport(t, narrow(1), api.Narrow, 2, 29)
	x = started(t, narrow(1))
	wantFeed(t, x, api.OK, 0, 1, message(0, 5)...)
	wantFeed(t, x, api.OK, 0, 21, message(0, 5)...)
	wantRun(t, x, 31, lost(22, 0, 50), begun(24, 0, 0, 30), done(30, 0, 0, 30))
}

// crowd has two tasks of which together 32 messages come at a tick, on four lines that are full then.
func crowd(room int) api.Config {
	task := api.Task{Cost: 5, Due: 197, Limits: limited(500, 16)}
	return api.Config{Lines: 4, Room: room, Poll: 1, Idle: 5, Tasks: []api.Task{task, task}}
}

// All lines full, all the Room taken, and the last one is done at its deadline.
func TestP9FullLines(t *testing.T) {
	wantReport(t, crowd(32), api.Fits, 32, 197, 197)
	wantReport(t, crowd(31), api.Narrow, 32, 197, 197)
	for _, room := range []int{32, 31} {
		x := started(t, crowd(room))
		for line := range 4 {
			wantFeed(t, x, api.OK, line, 7, messages(8, byte(line/2), 5)...)
		}
		wantCounts(t, x, api.Counts{Held: 128})
		events := x.Run(204)
		if room == 32 && !slices.Contains(events, done(204, 31, 1, 204)) {
			t.Errorf("the last of 32 is not done at its deadline: %+v", events)
		}
		// Idle rounds take 6 ticks too.
		wantCounts(t, x, api.Counts{Clock: 204, Jobs: room, Done: room, Lost: 32 - room})
	}
	for _, all := range worstOf(crowd(32)) {
		wantInTime(t, crowd(32), all)
	}
}

// urgent has a task whose jobs take 23 ticks and have time, and one whose jobs take 8 and have none.
func urgent(due int) api.Config {
	return changed(func(c *api.Config) {
		c.Lines, c.Idle = 2, 0
		c.Tasks = []api.Task{{Cost: 20, Due: 200, Limits: limited(400, 1)}, {Cost: 5, Due: due, Limits: limited(100, 1)}}
	})
}

// A job that was begun is done ahead of one with a lesser deadline that comes a tick behind: 23 + 8 - 1.
func TestP9BehindAJob(t *testing.T) {
	wantReport(t, urgent(30), api.Fits, 2, 61, 30)
	wantReport(t, urgent(29), api.Late, 2, 61, 30)
	x := started(t, urgent(30))
	wantFeed(t, x, api.OK, 0, 2, message(0, 20)...)
	wantFeed(t, x, api.OK, 1, 3, message(1, 5)...)
	wantRun(t, x, 33, begun(4, 0, 0, 202), done(25, 0, 0, 202), begun(27, 1, 1, 33), done(33, 1, 1, 33))
	for _, all := range worstOf(urgent(30)) {
		wantInTime(t, urgent(30), all)
	}
}

// The job that must be done first is done first, though it came last, and on the last line.
func TestP9UrgentFirst(t *testing.T) {
	x := started(t, urgent(30))
	wantFeed(t, x, api.OK, 0, 2, message(0, 20)...)
	wantFeed(t, x, api.OK, 1, 2, message(1, 5)...)
	wantRun(t, x, 33, begun(4, 1, 1, 32), done(10, 1, 1, 32), begun(12, 0, 0, 202), done(33, 0, 0, 202))
}

// Three limits, each of which keeps something back: the first one at the first tick the third
// message, the second one at the 11th tick the fourth one, the last one at the 21st the sixth one.
func TestP9SeveralLimits(t *testing.T) {
	c := changed(func(c *api.Config) {
		c.Lines, c.Idle, c.Room, c.Tasks[0].Due = 2, 6, 5, 27
		c.Tasks[0].Limits = []api.Limit{{Window: 10, Count: 2}, {Window: 12, Count: 3}, {Window: 100, Count: 5}}
	})
	wantReport(t, c, api.Fits, 5, 27)
	all := dense(c, []int{9})
	var ats []int
	for _, m := range all[:6] {
		ats = append(ats, m.at())
	}
	if !slices.Equal(ats, []int{9, 9, 19, 21, 29, 109}) {
		t.Fatalf("they come at %v", ats)
	}
	// An idle round from 8 to 16 is ahead of them; the last two are done at their deadlines.
	events := newFeeder(t, c, all[:5]).run(t)
	want := []api.Event{
		begun(18, 0, 0, 36), done(24, 0, 0, 36),
		begun(26, 1, 0, 36), done(32, 1, 0, 36),
		begun(34, 2, 0, 46), done(40, 2, 0, 46),
		begun(42, 3, 0, 48), done(48, 3, 0, 48),
		begun(50, 4, 0, 56), done(56, 4, 0, 56),
	}
	if !slices.Equal(events, want) {
		t.Errorf("Run = %+v, want %+v", events, want)
	}
	if got := wantInTime(t, c, all); got[0] != 27 {
		t.Errorf("took %d ticks, want 27", got[0])
	}
}

// Pieces that lie on a line for long are of no weight: a message comes with its last byte.
func TestP9Pieces(t *testing.T) {
	for cut := 1; cut <= 3; cut++ {
		x := started(t, idling(16))
		wantFeed(t, x, api.OK, 0, 0, message(0, 5)[:cut]...)
		wantFeed(t, x, api.OK, 1, 0, message(0, 4)[:4-cut]...)
		wantRun(t, x, 90)
		wantFeed(t, x, api.OK, 0, 91, message(0, 5)[cut:]...)
		wantRun(t, x, 107, begun(101, 0, 0, 107), done(107, 0, 0, 107))
		wantFeed(t, x, api.OK, 1, 111, message(0, 4)[4-cut:]...)
		wantRun(t, x, 127, begun(118, 1, 0, 127), done(123, 1, 0, 127))
	}
}

// Bytes that are passed over and messages of no task take no ticks, and no room.
func TestP9BesideOtherBytes(t *testing.T) {
	x := started(t, idling(16))
	wantFeed(t, x, api.OK, 0, 0, slices.Concat([]byte{1, 2, 0}, messages(3, 9, 255))...)
	wantFeed(t, x, api.OK, 1, 1, slices.Concat([]byte{85}, message(6, 6), message(0, 5), message(1, 1), []byte{5})...)
	wantRun(t, x, 17, begun(11, 0, 0, 17), done(17, 0, 0, 17))
	wantCounts(t, x, api.Counts{Clock: 17, Jobs: 1, Done: 1, Unknown: 5, Bad: 5})
}
