// Package ahead works out ahead how late a job can be at most, and how many can wait.
package ahead

import "tiller/api"

// Report tells what is known ahead of c, which must be valid.
func Report(c api.Config) api.Report {
	bounds := make([]int, len(c.Tasks))
	need := 0
	for i, t := range c.Tasks {
		bounds[i] = bound(c, t)
		need += most(t, bounds[i])
	}
	return api.Report{What: verdict(c, bounds, need), Bounds: bounds, Need: need}
}

// verdict asks for lateness first: where a job may be late, more room is of no help.
func verdict(c api.Config, bounds []int, need int) int {
	for i, t := range c.Tasks {
		if bounds[i] > t.Due {
			return api.Late
		}
	}
	if c.Room < need {
		return api.Narrow
	}
	return api.Fits
}

// bound is in how many ticks a job of t is done at most. How far its deadline lies behind the
// round ahead is n: more than Due, since the job came behind that round's beginning, but by no
// more than MaxTime, since nothing is fed later.
func bound(c api.Config, t api.Task) int {
	first := t.Due + 1
	last := t.Due + api.MaxTime
	worst := demand(c, first) - first
	for n := first + 1; n <= last; n++ {
		worst = max(worst, demand(c, n)-n)
	}
	return t.Due + longest(c) + worst
}

// demand is how long the jobs take at most that both come and must be done within n ticks.
func demand(c api.Config, n int) int {
	ticks := 0
	for _, t := range c.Tasks {
		ticks += most(t, n-t.Due) * price(c, t)
	}
	return ticks
}

// longest is the most ticks that a round takes.
func longest(c api.Config) int {
	ticks := c.Poll + c.Idle
	for _, t := range c.Tasks {
		ticks = max(ticks, price(c, t))
	}
	return ticks
}

// price is how many ticks the round of a job of t takes at most.
func price(c api.Config, t api.Task) int {
	return c.Poll + c.Switch + t.Cost
}

// most is how many jobs of t can come in the given number of ticks.
func most(t api.Task, ticks int) int {
	if ticks <= 0 {
		return 0
	}
	least := atMost(t.Limits[0], ticks)
	for _, l := range t.Limits[1:] {
		least = min(least, atMost(l, ticks))
	}
	return least
}

// atMost counts a Window that is only begun as a whole one: all its jobs may come at its front.
func atMost(l api.Limit, ticks int) int {
	return l.Count * ((ticks + l.Window - 1) / l.Window)
}
