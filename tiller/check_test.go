package tiller_test

import (
	"math"
	"reflect"
	"slices"
	"testing"

	"tiller/api"
	"tiller/tiller"
)

func wantReport(t *testing.T, c api.Config, what, need int, bounds ...int) {
	t.Helper()
	want := api.Report{What: what, Bounds: bounds, Need: need}
	if r, e := tiller.Check(c); e != api.OK || !reflect.DeepEqual(r, want) {
		t.Errorf("Check(%+v) = %+v, %d, want %+v", c, r, e, want)
	}
}

// changed gives the document's first example with something changed.
func changed(change func(c *api.Config)) api.Config {
	c := example()
	change(&c)
	return c
}

func limited(window, count int) []api.Limit {
	return []api.Limit{{Window: window, Count: count}}
}

func TestP5Example(t *testing.T) {
	wantReport(t, example(), api.Fits, 1, 15)
}

// At the bound itself a job is still in time.
func TestP5LateOrNot(t *testing.T) {
	wantReport(t, changed(func(c *api.Config) { c.Tasks[0].Due = 16 }), api.Fits, 1, 15)
	wantReport(t, changed(func(c *api.Config) { c.Tasks[0].Due = 15 }), api.Fits, 1, 15)
	wantReport(t, changed(func(c *api.Config) { c.Tasks[0].Due = 14 }), api.Late, 1, 15)
	wantReport(t, changed(func(c *api.Config) { c.Tasks[0].Due = 1 }), api.Late, 1, 15)
}

// The longest round is an idle one of 22 ticks: the bound is 22 + 8 - 1, in which two jobs can come.
func TestP5NarrowOrNot(t *testing.T) {
	for room := 1; room <= 40; room++ {
		what := api.Fits
		if room < 2 {
			what = api.Narrow
		}
		wantReport(t, changed(func(c *api.Config) { c.Idle, c.Room = 20, room }), what, 2, 29)
	}
}

func TestP5LateAheadOfNarrow(t *testing.T) {
	wantReport(t, changed(func(c *api.Config) { c.Idle, c.Room, c.Tasks[0].Due = 20, 1, 29 }), api.Narrow, 2, 29)
	wantReport(t, changed(func(c *api.Config) { c.Idle, c.Room, c.Tasks[0].Due = 20, 1, 28 }), api.Late, 2, 29)
	wantReport(t, changed(func(c *api.Config) { c.Idle, c.Room, c.Tasks[0].Due = 20, 2, 28 }), api.Late, 2, 29)
}

func TestP5LongestRound(t *testing.T) {
	wantReport(t, changed(func(c *api.Config) { c.Idle = 0 }), api.Fits, 1, 15)
	wantReport(t, changed(func(c *api.Config) { c.Idle = 6 }), api.Fits, 1, 15)
	wantReport(t, changed(func(c *api.Config) { c.Idle = 7 }), api.Fits, 1, 16)
	wantReport(t, changed(func(c *api.Config) { c.Switch = 3 }), api.Fits, 1, 19)
	wantReport(t, changed(func(c *api.Config) { c.Poll = 4 }), api.Fits, 1, 19)
}

// Of two tasks with prices of 8 and 12 the one with the later Due waits for both, whatever their order.
func TestP5TwoTasks(t *testing.T) {
	slow := api.Task{Cost: 5, Due: 100, Limits: limited(200, 1)}
	fast := api.Task{Cost: 9, Due: 40, Limits: limited(200, 1)}
	wantReport(t, changed(func(c *api.Config) { c.Tasks = []api.Task{slow, fast} }), api.Fits, 2, 31, 23)
	wantReport(t, changed(func(c *api.Config) { c.Tasks = []api.Task{fast, slow} }), api.Fits, 2, 23, 31)
	wantReport(t, changed(func(c *api.Config) { c.Tasks, c.Room = []api.Task{fast, slow}, 1 }), api.Narrow, 2, 23, 31)
}

// Nothing of the later task comes at a length that is its Due, and one job at a tick more.
func TestP5NothingComesInNoTicks(t *testing.T) {
	c := changed(func(c *api.Config) {
		c.Tasks = []api.Task{{Cost: 5, Due: 40, Limits: limited(500, 1)}, {Cost: 9, Due: 41, Limits: limited(500, 1)}}
	})
	wantReport(t, c, api.Fits, 2, 30, 31)
	c.Tasks[1].Due = 51
	wantReport(t, c, api.Fits, 2, 20, 31)
	c.Tasks[1].Due = 52
	wantReport(t, c, api.Fits, 2, 19, 31)
	c.Tasks[1].Due = 53
	wantReport(t, c, api.Fits, 2, 19, 31)
}

// The task that may be late is found wherever it stands.
func TestP5OneOfSeveralIsLate(t *testing.T) {
	for n := 1; n <= 6; n++ {
		for late := range n {
			c := changed(func(c *api.Config) { c.Room = 40 })
			c.Tasks = make([]api.Task, n)
			for i := range c.Tasks {
				c.Tasks[i] = api.Task{Cost: 5, Due: 400, Limits: limited(500, 1)}
			}
			if r, e := tiller.Check(c); e != api.OK || r.What != api.Fits {
				t.Errorf("Check(%+v) = %+v, %d, want Fits", c, r, e)
			}
			c.Tasks[late].Due = 14
			r, e := tiller.Check(c)
			if e != api.OK || r.What != api.Late {
				t.Fatalf("Check(%+v) = %+v, %d, want Late", c, r, e)
			}
			for i, task := range c.Tasks {
				if (r.Bounds[i] > task.Due) != (i == late) {
					t.Errorf("Check(%+v) = %+v, want only task %d late", c, r, late)
				}
			}
		}
	}
}

// Each limit has lengths at which it is the one that counts.
func TestP5SeveralLimits(t *testing.T) {
	with := func(l ...api.Limit) api.Config {
		return changed(func(c *api.Config) { c.Room, c.Tasks[0].Due, c.Tasks[0].Limits = 40, 200, l })
	}
	wantReport(t, with(api.Limit{Window: 10, Count: 2}, api.Limit{Window: 100, Count: 5}), api.Fits, 5, 29)
	wantReport(t, with(api.Limit{Window: 10, Count: 2}, api.Limit{Window: 100, Count: 3}), api.Fits, 3, 23)
	wantReport(t, with(api.Limit{Window: 1, Count: 1}, api.Limit{Window: 2, Count: 3}, api.Limit{Window: 100, Count: 4}), api.Fits, 4, 36)
}

// Lengths end at Due + MaxTime: what comes just there counts, what comes a tick later does not.
func TestP5LastLength(t *testing.T) {
	wantReport(t, least(), api.Late, 1002, 1002)
	there := api.Config{Lines: 1, Room: 1, Poll: 1, Tasks: []api.Task{{Cost: 50, Due: 400, Limits: limited(27, 1)}}}
	wantReport(t, there, api.Late, 37, 989)
	later := api.Config{Lines: 1, Room: 1, Poll: 20, Switch: 20, Tasks: []api.Task{{Cost: 50, Due: 400, Limits: limited(500, 20)}}}
	wantReport(t, later, api.Late, 140, 3189)
}

// How many lines there are is of no weight.
func TestP5Lines(t *testing.T) {
	for lines := 1; lines <= 4; lines++ {
		wantReport(t, changed(func(c *api.Config) { c.Lines = lines }), api.Fits, 1, 15)
	}
}

// reckoned works a report out by stepping through the ticks one by one.
func reckoned(c api.Config) api.Report {
	longest := c.Poll + c.Idle
	demands := make([]int, api.MaxDue+api.MaxTime+1)
	for _, t := range c.Tasks {
		price := c.Poll + c.Switch + t.Cost
		longest = max(longest, price)
		for w, jobs := range comings(t, api.MaxDue+api.MaxTime-t.Due) {
			demands[t.Due+w] += jobs * price
		}
	}
	r := api.Report{What: api.Fits}
	for _, t := range c.Tasks {
		worst := math.MinInt
		for n, demand := range demands[:t.Due+api.MaxTime+1] {
			if n > t.Due {
				worst = max(worst, longest+demand-n)
			}
		}
		bound := t.Due + worst
		r.Bounds = append(r.Bounds, bound)
		r.Need += comings(t, bound)[bound]
	}
	if r.Need > c.Room {
		r.What = api.Narrow
	}
	for i, t := range c.Tasks {
		if r.Bounds[i] > t.Due {
			r.What = api.Late
		}
	}
	return r
}

// comings are the most jobs of a task in each number of ticks up to the last.
func comings(task api.Task, last int) []int {
	least := make([]int, last+1)
	for i, l := range task.Limits {
		jobs := 0
		for w := 1; w <= last; w++ {
			if w%l.Window == 1%l.Window {
				jobs += l.Count
			}
			if i == 0 || jobs < least[w] {
				least[w] = jobs
			}
		}
	}
	return least
}

func wantReckoned(t *testing.T, c api.Config) api.Report {
	t.Helper()
	want := reckoned(c)
	if r, e := tiller.Check(c); e != api.OK || !reflect.DeepEqual(r, want) {
		t.Fatalf("Check(%+v) = %+v, %d, want %+v", c, r, e, want)
	}
	return want
}

func TestP5EachNumber(t *testing.T) {
	for _, k := range known {
		wantReckoned(t, k.config())
	}
	for _, f := range fields {
		for n := f.least; n <= f.most; n++ {
			c := pair()
			*f.of(&c) = n
			wantReckoned(t, c)
		}
	}
}

// mixed makes numbers that always are the same ones, from least to most.
type mixed uint64

func (m *mixed) from(least, most int) int {
	*m = *m*6364136223846793005 + 1442695040888963407
	return least + int(uint64(*m)>>33%uint64(most-least+1))
}

func (m *mixed) limits() []api.Limit {
	var l []api.Limit
	window, count := 0, 0
	for range m.from(1, 3) {
		window = m.from(window+1, min(window+160, 500))
		count = m.from(count+1, count+3)
		l = append(l, api.Limit{Window: window, Count: count})
	}
	return l
}

func (m *mixed) config() api.Config {
	c := api.Config{Lines: m.from(1, 4), Room: m.from(1, 40), Poll: m.from(1, 5), Idle: m.from(0, 20), Switch: m.from(0, 5)}
	for range m.from(1, 6) {
		c.Tasks = append(c.Tasks, api.Task{Cost: m.from(1, 10), Due: m.from(20, 400), Limits: m.limits()})
	}
	return c
}

func TestP5ManyConfigurations(t *testing.T) {
	var m mixed
	seen := map[int]int{}
	for range 2000 {
		seen[wantReckoned(t, m.config()).What]++
	}
	for _, what := range []int{api.Fits, api.Late, api.Narrow} {
		if seen[what] < 50 {
			t.Errorf("too few of a verdict: %v", seen)
		}
	}
}

func TestP5NoConfiguration(t *testing.T) {
	for _, c := range noConfigurations() {
		if r, e := tiller.Check(c); !reflect.DeepEqual(r, api.Report{}) || e != api.ErrConfig {
			t.Errorf("Check(%+v) = %+v, %d, want nothing and ErrConfig", c, r, e)
		}
	}
}

// At whatever numbers there are, Check answers a report just when Encode gives bytes.
func TestP1CheckAnyNumbers(t *testing.T) {
	numbers := []int{math.MinInt, -1, 0, 1, 2, 20, 21, 400, 500, math.MaxInt}
	for _, f := range fields {
		for _, g := range fields {
			for _, n := range numbers {
				for _, m := range numbers {
					c := pair()
					*f.of(&c) = n
					*g.of(&c) = m
					_, want := tiller.Encode(c)
					if r, e := tiller.Check(c); e != want || len(r.Bounds) > 0 != (e == api.OK) {
						t.Fatalf("Check(%+v) = %+v, %d, want %d", c, r, e, want)
					}
				}
			}
		}
	}
}

// What Check answers hangs neither on earlier calls nor on those at the same time.
func TestP1CheckSameAnswerAgain(t *testing.T) {
	done := make(chan bool)
	for range 4 {
		go func() {
			same := true
			for range 3 {
				for _, k := range known {
					tiller.Check(api.Config{})
					r, e := tiller.Check(k.config())
					same = same && e == api.OK && reflect.DeepEqual(r, reckoned(k.config()))
				}
			}
			done <- same
		}()
	}
	for range 4 {
		if !<-done {
			t.Error("another answer at the same configuration")
		}
	}
}

func TestP2ArgumentOfCheckStays(t *testing.T) {
	wantUntouched(t, func(c api.Config) { tiller.Check(c) })
}

func TestP2CheckSeesNoSpareRoom(t *testing.T) {
	for _, k := range known {
		wantReckoned(t, roomy(k.config()))
	}
}

func TestP2ReportIsTheCallers(t *testing.T) {
	for _, k := range known {
		want := reckoned(k.config())
		c := k.config()
		first, _ := tiller.Check(c)
		for i := range c.Tasks {
			clear(c.Tasks[i].Limits)
		}
		clear(c.Tasks)
		if !reflect.DeepEqual(first, want) {
			t.Errorf("%s: the report hangs on its argument: %+v", k.name, first)
		}
		second, _ := tiller.Check(k.config())
		clear(first.Bounds[:cap(first.Bounds)])
		third, _ := tiller.Check(k.config())
		if !slices.Equal(second.Bounds, want.Bounds) || !slices.Equal(third.Bounds, want.Bounds) {
			t.Errorf("%s: bounds %v, %v, want %v", k.name, second.Bounds, third.Bounds, want.Bounds)
		}
	}
}
