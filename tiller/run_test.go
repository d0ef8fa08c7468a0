package tiller_test

import (
	"math"
	"slices"
	"testing"

	"tiller/api"
	"tiller/tiller"
)

func TestP7P8Examples(t *testing.T) {
	x := started(t, example())
	wantFeed(t, x, api.OK, 0, 3, 126, 0, 4, 81)
	wantRun(t, x, 1)
	wantCounts(t, x, api.Counts{Clock: 3, Held: 4})
	wantRun(t, x, 4, begun(5, 0, 0, 33), done(10, 0, 0, 33))
	wantCounts(t, x, api.Counts{Clock: 10, Jobs: 1, Done: 1})
	wantFeed(t, x, api.OK, 0, 10, 126, 0, 4)
	wantRun(t, x, 11)
	wantCounts(t, x, api.Counts{Clock: 13, Jobs: 1, Done: 1, Held: 3})
	wantFeed(t, x, api.OK, 0, 13, 80, 126, 9, 1, 93)
	wantFeed(t, x, api.ErrLine, 1, 13)
	wantFeed(t, x, api.ErrTime, 0, 12)
	wantRun(t, x, 14)
	wantCounts(t, x, api.Counts{Clock: 16, Jobs: 1, Done: 1, Unknown: 1, Bad: 4})
}

// Where nothing waits a round takes Poll and Idle; a round that was begun goes to its end.
func TestP7IdleRounds(t *testing.T) {
	for poll := 1; poll <= 20; poll++ {
		for idle := 0; idle <= 20; idle++ {
			x := started(t, changed(func(c *api.Config) { c.Poll, c.Idle = poll, idle }))
			clock := 0
			for _, until := range []int{math.MinInt, -1, 0, 1, 1, 2, 30, 40, 41, 40, 77, 0} {
				wantRun(t, x, until)
				for clock < until {
					clock += poll + idle
				}
				wantCounts(t, x, api.Counts{Clock: clock})
			}
		}
	}
}

// At until itself no round begins any more, and one begins at the tick ahead of it.
func TestP7Until(t *testing.T) {
	for until := -1; until <= 12; until++ {
		x := started(t, example())
		wantRun(t, x, until)
		wantCounts(t, x, api.Counts{Clock: (max(until, 0) + 2) / 3 * 3})
	}
}

func TestP7LastClock(t *testing.T) {
	for _, last := range []struct{ poll, idle, clock int }{
		{1, 0, 3000}, {20, 20, 3000}, {2, 1, 3000}, {7, 0, 3003}, {7, 4, 3003}, {20, 19, 3003},
	} {
		for _, until := range []int{3000, 3001, 5000, math.MaxInt} {
			x := started(t, changed(func(c *api.Config) { c.Poll, c.Idle = last.poll, last.idle }))
			wantRun(t, x, until)
			wantCounts(t, x, api.Counts{Clock: last.clock})
			wantRun(t, x, math.MaxInt)
			wantCounts(t, x, api.Counts{Clock: last.clock})
		}
	}
	x := started(t, changed(func(c *api.Config) { c.Poll, c.Idle = 1, 0 }))
	wantRun(t, x, 2999)
	wantCounts(t, x, api.Counts{Clock: 2999})
}

// A job that is begun ahead of MaxClock is done, however late; one that is not begun waits for ever.
func TestP7JobsAtTheLastClock(t *testing.T) {
	x := started(t, quick())
	for line := range 4 {
		wantFeed(t, x, api.OK, line, 0, messages(8, 0, 255)...)
	}
	events := x.Run(math.MaxInt)
	// Rounds of 256 ticks: the twelfth begins at 2816.
	if len(events) != 24 || events[23] != done(3072, 11, 0, 100) {
		t.Errorf("Run = %+v", events)
	}
	want := api.Counts{Clock: 3072, Jobs: 32, Done: 12, Waiting: 20}
	wantCounts(t, x, want)
	wantRun(t, x, math.MaxInt)
	wantCounts(t, x, want)
}

func TestP7JobAtTheLastTick(t *testing.T) {
	x := started(t, quick())
	x.Run(999)
	wantFeed(t, x, api.OK, 3, 999, message(0, 255)...)
	wantRun(t, x, math.MaxInt, begun(1000, 0, 0, 1099), done(1255, 0, 0, 1099))
	wantCounts(t, x, api.Counts{Clock: 3000, Jobs: 1, Done: 1})
}

// A round takes Poll, then Switch and what the message says that the job costs; the task's Cost is of no weight.
func TestP7Prices(t *testing.T) {
	for poll := 1; poll <= 20; poll++ {
		for change := 0; change <= 20; change++ {
			for _, cost := range []int{1, 5, 6, 126, 255} {
				x := started(t, changed(func(c *api.Config) { c.Poll, c.Switch, c.Idle = poll, change, 20 }))
				wantFeed(t, x, api.OK, 0, 0, message(0, byte(cost))...)
				end := poll + change + cost
				wantRun(t, x, 1, begun(poll, 0, 0, 30), done(end, 0, 0, 30))
				wantCounts(t, x, api.Counts{Clock: end, Jobs: 1, Done: 1})
			}
		}
	}
}

// What was fed at the tick at which a round begins is read in it; what was fed a tick later is not.
func TestP7FedUpToTheRound(t *testing.T) {
	for at := range 10 {
		x := started(t, example())
		wantFeed(t, x, api.OK, 0, at, message(0, 4)...)
		round := (at + 2) / 3 * 3
		wantRun(t, x, round)
		wantCounts(t, x, api.Counts{Clock: round, Held: 4})
		wantRun(t, x, round+1, begun(round+2, 0, 0, at+30), done(round+7, 0, 0, at+30))
	}
}

// The least deadline is first, not what came first: but what was begun is done.
func TestP7LeastDeadline(t *testing.T) {
	x := started(t, several())
	wantFeed(t, x, api.OK, 0, 0, slices.Concat(message(0, 5), message(1, 3), message(2, 9))...)
	wantRun(t, x, 1, begun(2, 2, 2, 40), done(12, 2, 2, 40))
	wantFeed(t, x, api.OK, 1, 13, message(2, 200)...)
	wantRun(t, x, 13, begun(14, 1, 1, 70), done(18, 1, 1, 70))
	wantFeed(t, x, api.OK, 0, 19, message(2, 1)...)
	wantRun(t, x, 19, begun(20, 3, 2, 53), done(221, 3, 2, 53))
	wantRun(t, x, 222, begun(223, 4, 2, 59), done(225, 4, 2, 59))
	wantRun(t, x, 226, begun(227, 0, 0, 100), done(233, 0, 0, 100))
	wantCounts(t, x, api.Counts{Clock: 233, Jobs: 5, Done: 5})
}

// Of two deadlines that differ by one tick the lesser one is first, whatever the tasks.
func TestP7NearDeadlines(t *testing.T) {
	for at := 28; at <= 32; at++ {
		x := started(t, slow(several()))
		wantFeed(t, x, api.OK, 0, 1, message(0, 1)...)
		wantFeed(t, x, api.OK, 1, at, message(1, 1)...)
		events := x.Run(41)
		first := 1
		if at+70 >= 101 {
			first = 0
		}
		if len(events) != 2 || events[0].Task != first || events[0].Job != first {
			t.Errorf("deadlines 101 and %d: Run = %+v", at+70, events)
		}
	}
}

// Equal deadlines: the least number is first, of one task and of several, on one line and on several.
func TestP7EqualDeadlines(t *testing.T) {
	x := started(t, quick())
	for line := range 4 {
		wantFeed(t, x, api.OK, line, 0, messages(8, 0, 1)...)
	}
	events := x.Run(math.MaxInt)
	if len(events) != 64 {
		t.Fatalf("Run = %+v", events)
	}
	for job := range 32 {
		if events[2*job] != begun(2*job+1, job, 0, 100) || events[2*job+1] != done(2*job+2, job, 0, 100) {
			t.Errorf("job %d: %+v, %+v", job, events[2*job], events[2*job+1])
		}
	}
}

// Lines are read from 0 on, so that the numbers hang on the lines and not on what was fed first.
func TestP7EqualDeadlinesOfSeveralTasks(t *testing.T) {
	x := started(t, slow(quick()))
	wantFeed(t, x, api.OK, 3, 5, message(0, 1)...)
	wantFeed(t, x, api.OK, 2, 5, message(0, 2)...)
	wantRun(t, x, 1)
	wantRun(t, x, 41, begun(60, 0, 0, 105), done(62, 0, 0, 105))
	wantFeed(t, x, api.OK, 0, 62, message(1, 3)...)
	wantRun(t, x, 63, begun(82, 1, 0, 105), done(83, 1, 0, 105))

	x = started(t, slow(several()))
	wantFeed(t, x, api.OK, 1, 1, message(0, 1)...)
	wantFeed(t, x, api.OK, 0, 31, message(1, 1)...)
	wantRun(t, x, 41, begun(60, 0, 1, 101), done(62, 0, 1, 101))
	wantRun(t, x, 63, begun(82, 1, 0, 101), done(84, 1, 0, 101))
}

// A message that comes in pieces is one from its last byte on, wherever it is cut.
func TestP7Pieces(t *testing.T) {
	for cut := range 5 {
		for at := range 8 {
			x := started(t, example())
			wantFeed(t, x, api.OK, 0, 0, message(0, 4)[:cut]...)
			wantFeed(t, x, api.OK, 0, at, message(0, 4)[cut:]...)
			last := at
			if cut == 4 {
				last = 0
			}
			round := (last + 2) / 3 * 3
			wantRun(t, x, round)
			if round > 0 {
				wantCounts(t, x, api.Counts{Clock: round, Held: 4})
			}
			wantRun(t, x, round+1, begun(round+2, 0, 0, last+30), done(round+7, 0, 0, last+30))
			wantCounts(t, x, api.Counts{Clock: round + 7, Jobs: 1, Done: 1})
		}
	}
}

func TestP7PiecesByteByByte(t *testing.T) {
	x := started(t, several())
	for i := range 4 {
		at := 5 * i
		wantFeed(t, x, api.OK, 0, at, message(2, 1)[i])
		wantFeed(t, x, api.OK, 1, at, message(0, 2)[i])
		if i < 3 {
			wantRun(t, x, at+1)
			wantCounts(t, x, api.Counts{Clock: at + 5, Held: 2 * (i + 1)})
		}
	}
	wantRun(t, x, 16, begun(17, 0, 2, 55), done(19, 0, 2, 55))
	wantRun(t, x, 20, begun(21, 1, 0, 115), done(24, 1, 0, 115))
	wantCounts(t, x, api.Counts{Clock: 24, Jobs: 2, Done: 2})
}

// Whether a Flag has three bytes behind it is asked of what was fed up to the round's tick.
func TestP7PiecesOfLater(t *testing.T) {
	x := started(t, example())
	wantFeed(t, x, api.OK, 0, 0, 126, 0, 4)
	wantFeed(t, x, api.OK, 0, 1, 80)
	wantFeed(t, x, api.OK, 0, 4, 126)
	wantRun(t, x, 1)
	wantCounts(t, x, api.Counts{Clock: 3, Held: 5})
	wantRun(t, x, 4)
	wantCounts(t, x, api.Counts{Clock: 6, Held: 1, Bad: 4})
	wantRun(t, x, 7)
	wantCounts(t, x, api.Counts{Clock: 9, Held: 1, Bad: 4})
}

// The pieces of one line are not those of another.
func TestP7PiecesOfTwoLines(t *testing.T) {
	x := started(t, several())
	wantFeed(t, x, api.OK, 0, 0, 126, 0)
	wantFeed(t, x, api.OK, 1, 0, 4, 81)
	wantRun(t, x, 1)
	wantCounts(t, x, api.Counts{Clock: 5, Held: 2, Bad: 2})
}

func TestP7BadBytes(t *testing.T) {
	for _, b := range []struct {
		bytes                    []byte
		bad, unknown, jobs, held int
	}{
		{[]byte{}, 0, 0, 0, 0},
		{[]byte{126}, 0, 0, 0, 1},
		{[]byte{126, 126}, 0, 0, 0, 2},
		{[]byte{126, 126, 126}, 0, 0, 0, 3},
		{[]byte{126, 126, 126, 126}, 1, 0, 0, 3},
		{[]byte{126, 0, 4}, 0, 0, 0, 3},
		{[]byte{126, 9, 9}, 0, 0, 0, 3},
		{[]byte{126, 0, 0}, 0, 0, 0, 3},
		{[]byte{1, 2, 3}, 3, 0, 0, 0},
		{[]byte{0, 4, 81, 126}, 3, 0, 0, 1},
		{[]byte{0, 4, 81}, 3, 0, 0, 0},
		{[]byte{126, 0, 4, 80}, 4, 0, 0, 0},
		{[]byte{126, 0, 0, 85}, 4, 0, 0, 0},
		{[]byte{126, 7, 0, 82}, 4, 0, 0, 0},
		{[]byte{126, 0, 4, 81}, 0, 0, 1, 0},
		{[]byte{126, 0, 126, 43}, 0, 0, 1, 0},
		{[]byte{126, 126, 126, 85}, 0, 1, 0, 0},
		{[]byte{126, 126, 85, 126}, 0, 1, 0, 0},
		{[]byte{126, 0, 43, 126}, 0, 0, 1, 0},
		{[]byte{126, 126, 0, 4, 81}, 1, 0, 1, 0},
		{[]byte{126, 0, 126, 0, 4, 81}, 2, 0, 1, 0},
		{[]byte{126, 0, 4, 126, 0, 4, 81}, 3, 0, 1, 0},
		{[]byte{126, 0, 4, 126, 0, 4}, 3, 0, 0, 3},
		{[]byte{126, 0, 4, 80, 126, 0, 4, 81}, 4, 0, 1, 0},
		{[]byte{126, 0, 4, 81, 126, 0, 4}, 0, 0, 1, 3},
		{[]byte{126, 0, 4, 81, 81, 126, 1, 4, 80}, 1, 1, 1, 0},
		{[]byte{126, 1, 4, 80}, 0, 1, 0, 0},
		{[]byte{126, 255, 255, 85}, 0, 1, 0, 0},
		{[]byte{126, 1, 4, 81}, 4, 0, 0, 0},
		{[]byte{5, 126, 0, 4, 81, 5, 126, 0, 5, 80, 5}, 3, 0, 2, 0},
	} {
		x := started(t, example())
		wantFeed(t, x, api.OK, 0, 0, b.bytes...)
		x.Run(1)
		got := x.Counts()
		want := api.Counts{Clock: got.Clock, Jobs: b.jobs, Done: min(b.jobs, 1), Waiting: max(b.jobs-1, 0), Unknown: b.unknown, Bad: b.bad, Held: b.held}
		if got != want {
			t.Errorf("%v: Counts = %+v, want %+v", b.bytes, got, want)
		}
	}
}

func TestP7EachByteAlone(t *testing.T) {
	for n := range 256 {
		x := started(t, example())
		wantFeed(t, x, api.OK, 0, 0, byte(n))
		wantRun(t, x, 1)
		if n == 126 {
			wantCounts(t, x, api.Counts{Clock: 3, Held: 1})
		} else {
			wantCounts(t, x, api.Counts{Clock: 3, Bad: 1})
		}
	}
}

// Each number of a task with each cost: with its right last byte, and with others.
func TestP7EachMessage(t *testing.T) {
	for task := range 256 {
		for cost := range 256 {
			x := started(t, several())
			wantFeed(t, x, api.OK, 0, 0, message(byte(task), byte(cost))...)
			got := x.Run(1)
			switch {
			case cost == 0:
				wantCounts(t, x, api.Counts{Clock: 5, Bad: 4 - stays(byte(task), 0, byte(task)^85), Held: stays(byte(task), 0, byte(task)^85)})
			case task > 2:
				wantCounts(t, x, api.Counts{Clock: 5, Unknown: 1})
			default:
				wantCounts(t, x, api.Counts{Clock: 3 + cost, Jobs: 1, Done: 1})
				due := []int{100, 70, 40}[task]
				if !slices.Equal(got, []api.Event{begun(2, 0, task, due), done(3+cost, 0, task, due)}) {
					t.Errorf("task %d, cost %d: Run = %+v", task, cost, got)
				}
			}
		}
	}
}

func TestP7EachLastByte(t *testing.T) {
	for _, m := range [][]byte{message(0, 1), message(1, 255), message(9, 8), message(126, 7), message(2, 126)} {
		for d := 1; d < 256; d++ {
			b := slices.Clone(m)
			b[3] ^= byte(d)
			x := started(t, several())
			wantFeed(t, x, api.OK, 0, 0, b...)
			wantRun(t, x, 1)
			held := stays(b[1:]...)
			wantCounts(t, x, api.Counts{Clock: 5, Bad: 4 - held, Held: held})
		}
	}
}

// stays is how many of up to three bytes behind a bad Flag are not read yet: those from a Flag on.
func stays(b ...byte) int {
	i := slices.Index(b, 126)
	if i < 0 {
		return 0
	}
	return len(b) - i
}

func TestP7HowManyTasks(t *testing.T) {
	for n := 1; n <= 6; n++ {
		for task := range 8 {
			x := started(t, changed(func(c *api.Config) { c.Tasks = tasks(n) }))
			wantFeed(t, x, api.OK, 0, 0, message(byte(task), 4)...)
			if task < n {
				wantRun(t, x, 1, begun(2, 0, task, 300), done(7, 0, task, 300))
			} else {
				wantRun(t, x, 1)
				wantCounts(t, x, api.Counts{Clock: 3, Unknown: 1})
			}
		}
	}
}

func TestP7FullRoom(t *testing.T) {
	x := started(t, several())
	wantFeed(t, x, api.OK, 0, 0, slices.Concat(message(0, 1), message(2, 1), message(0, 1), message(2, 1))...)
	wantFeed(t, x, api.OK, 1, 0, slices.Concat(message(3, 1), message(1, 7))...)
	wantRun(t, x, 1, lost(0, 2, 40), lost(0, 1, 70), begun(2, 1, 2, 40), done(4, 1, 2, 40))
	wantCounts(t, x, api.Counts{Clock: 4, Jobs: 3, Done: 1, Waiting: 2, Lost: 2, Unknown: 1})
	// One has room again, and the number behind those that came to wait; the other has none.
	wantFeed(t, x, api.OK, 1, 4, messages(2, 2, 2)...)
	wantRun(t, x, 5, lost(4, 2, 44), begun(6, 3, 2, 44), done(9, 3, 2, 44))
	wantRun(t, x, 10, begun(11, 0, 0, 100), done(13, 0, 0, 100))
	wantRun(t, x, 14, begun(15, 2, 0, 100), done(17, 2, 0, 100))
	wantRun(t, x, 18)
	wantCounts(t, x, api.Counts{Clock: 22, Jobs: 4, Done: 4, Lost: 3, Unknown: 1})
}

// In a room of each size just so many jobs wait.
func TestP7EachRoom(t *testing.T) {
	for room := 1; room <= 40; room++ {
		x := started(t, changed(func(c *api.Config) { *c = quick(); c.Room = room }))
		for line := range 4 {
			wantFeed(t, x, api.OK, line, 0, messages(8, 0, 1)...)
		}
		x.Run(1)
		jobs := min(room, 32)
		wantCounts(t, x, api.Counts{Clock: 2, Jobs: jobs, Done: 1, Waiting: jobs - 1, Lost: 32 - jobs})
		for line := range 4 {
			wantFeed(t, x, api.OK, line, 2, messages(8, 1, 1)...)
		}
		x.Run(3)
		more := min(room-jobs+1, 32)
		wantCounts(t, x, api.Counts{Clock: 4, Jobs: jobs + more, Done: 2, Waiting: jobs + more - 2, Lost: 64 - jobs - more})
	}
}

// It makes no difference in how many calls rounds are asked for.
func TestP7RunsOneByOne(t *testing.T) {
	fed := func() *tiller.Exec {
		x := started(t, several())
		for at := range 16 {
			wantFeed(t, x, api.OK, at%2, 9*at, message(byte(at%4), byte(1+at%7))...)
		}
		return x
	}
	whole, pieces := fed(), fed()
	var events []api.Event
	for until := range 201 {
		events = append(events, pieces.Run(until)...)
	}
	wantRun(t, whole, 200, events...)
	wantCounts(t, whole, pieces.Counts())
	if n := whole.Counts(); n.Done != 12 || n.Unknown != 4 || n.Spilled != 0 {
		t.Errorf("Counts = %+v, want 12 jobs done", n)
	}
}

func TestP8CountsChangesNothing(t *testing.T) {
	x := started(t, several())
	wantFeed(t, x, api.OK, 0, 0, slices.Concat(messages(4, 0, 5), message(7, 7), []byte{1, 126, 0})...)
	wantFeed(t, x, api.OK, 1, 7, make([]byte, 33)...)
	wantFeed(t, x, api.OK, 1, 9, 1)
	x.Run(1)
	for range 3 {
		wantCounts(t, x, api.Counts{Clock: 8, Jobs: 3, Done: 1, Waiting: 2, Lost: 1, Unknown: 1, Bad: 1, Spilled: 2, Held: 34})
	}
	wantRun(t, x, 9, begun(10, 1, 0, 100), done(16, 1, 0, 100))
	wantCounts(t, x, api.Counts{Clock: 16, Jobs: 3, Done: 2, Waiting: 1, Lost: 1, Unknown: 1, Bad: 33, Spilled: 2, Held: 2})
}

// Events are overwritten, their spare room too: none that came out earlier or later may change.
func TestP2EventsAreTheCallers(t *testing.T) {
	x, y := started(t, several()), started(t, several())
	for _, at := range []int{0, 40, 41} {
		for _, z := range []*tiller.Exec{x, y} {
			wantFeed(t, z, api.OK, 0, at, messages(4, 2, 1)...)
		}
	}
	var before []api.Event
	for until := range 60 {
		got, want := x.Run(until), y.Run(until)
		if !slices.Equal(got, want) {
			t.Fatalf("Run(%d) = %+v, want %+v", until, got, want)
		}
		kept := slices.Clone(want)
		for i := range got[:cap(got)] {
			got[:cap(got)][i] = api.Event{Kind: 99, At: 99, Job: 99, Task: 99, Deadline: 99}
		}
		if !slices.Equal(want, kept) || slices.ContainsFunc(before, func(e api.Event) bool { return e.Kind == 99 }) {
			t.Errorf("Run(%d): other events have become %+v, %+v", until, want, before)
		}
		if len(want) > 0 {
			before = want
		}
	}
	wantCounts(t, x, y.Counts())
}
