package tiller_test

import (
	"bytes"
	"math"
	"slices"
	"testing"

	"tiller/api"
	"tiller/tiller"
)

func TestP6NewIsAtZero(t *testing.T) {
	for _, k := range known {
		wantCounts(t, started(t, k.config()), api.Counts{})
	}
}

func TestP6NoConfiguration(t *testing.T) {
	for _, c := range noConfigurations() {
		if x, e := tiller.New(c); x != nil || e != api.ErrConfig {
			t.Errorf("New(%+v) = %v, %d, want nothing and ErrConfig", c, x, e)
		}
	}
}

func TestP6WhichLines(t *testing.T) {
	for lines := 1; lines <= 4; lines++ {
		x := started(t, changed(func(c *api.Config) { c.Lines = lines }))
		for line := range lines {
			wantFeed(t, x, api.OK, line, 0, 1)
		}
		for _, line := range []int{-1, lines, lines + 1, lines + 256, lines - 256, math.MinInt, math.MaxInt} {
			wantFeed(t, x, api.ErrLine, line, 0, 1)
			wantFeed(t, x, api.ErrLine, line, 0)
		}
		wantCounts(t, x, api.Counts{Held: lines})
	}
}

func TestP6WhichTimes(t *testing.T) {
	x := started(t, example())
	for _, at := range []int{-1, -1000, math.MinInt, 1000, 1001, 3000, math.MaxInt} {
		wantFeed(t, x, api.ErrTime, 0, at, 1)
		wantFeed(t, x, api.ErrTime, 0, at)
	}
	wantFeed(t, x, api.OK, 0, 0, 1)
	wantFeed(t, x, api.OK, 0, 999, 1)
	wantFeed(t, x, api.ErrTime, 0, 1000, 1)
	wantFeed(t, x, api.OK, 0, 999, 1)
	wantCounts(t, x, api.Counts{Held: 3})
}

// The clock itself is not too early, and the tick ahead of it is, even if a round began ahead of that.
func TestP6BelowTheClock(t *testing.T) {
	x := started(t, example())
	x.Run(1)
	for at := range 3 {
		wantFeed(t, x, api.ErrTime, 0, at, 1)
	}
	wantFeed(t, x, api.OK, 0, 3, 1)
	wantCounts(t, x, api.Counts{Clock: 3, Held: 1})
}

func TestP6ClockBehindTheLastTime(t *testing.T) {
	x := started(t, quick())
	x.Run(999)
	wantFeed(t, x, api.OK, 0, 999, 1)
	x.Run(1000)
	for _, at := range []int{0, 999, 1000, 1001} {
		wantFeed(t, x, api.ErrTime, 0, at, 1)
	}
	wantCounts(t, x, api.Counts{Clock: 1000, Bad: 1})
}

func TestP6LineAheadOfTime(t *testing.T) {
	x := started(t, example())
	x.Run(5)
	wantFeed(t, x, api.OK, 0, 50)
	for _, at := range []int{math.MinInt, -1, 0, 49, 1000, math.MaxInt} {
		wantFeed(t, x, api.ErrLine, 1, at, 1)
		wantFeed(t, x, api.ErrLine, -1, at, 1)
		wantFeed(t, x, api.ErrTime, 0, at, 1)
	}
}

// An earlier Feed counts whatever its line, if it held nothing, and if all of it was spilled.
func TestP6EarlierFeed(t *testing.T) {
	x := started(t, several())
	wantFeed(t, x, api.OK, 0, 20)
	for line := range 2 {
		wantFeed(t, x, api.ErrTime, line, 19, 1)
		wantFeed(t, x, api.OK, line, 20)
	}
	wantFeed(t, x, api.OK, 0, 21, make([]byte, 32)...)
	wantFeed(t, x, api.OK, 0, 30, 1)
	wantFeed(t, x, api.ErrTime, 1, 29, 1)
	wantFeed(t, x, api.OK, 1, 30, 1)
	wantCounts(t, x, api.Counts{Held: 33, Spilled: 1})
}

func TestP6RefusedFeedIsNoEarlierOne(t *testing.T) {
	x := started(t, several())
	wantFeed(t, x, api.OK, 0, 20, 1)
	wantFeed(t, x, api.ErrLine, 2, 500, 1)
	wantFeed(t, x, api.ErrTime, 0, 1000, 1)
	wantFeed(t, x, api.ErrTime, 0, 5, 1)
	wantFeed(t, x, api.ErrTime, 0, 19, 1)
	wantFeed(t, x, api.OK, 0, 20, 1)
	wantCounts(t, x, api.Counts{Held: 2})
}

func TestP6OtherExecutivesFeed(t *testing.T) {
	x, y := started(t, example()), started(t, example())
	wantFeed(t, x, api.OK, 0, 900, message(0, 4)...)
	y.Run(100)
	wantCounts(t, x, api.Counts{Held: 4})
	wantCounts(t, y, api.Counts{Clock: 102})
	wantFeed(t, y, api.OK, 0, 102, message(0, 4)...)
	wantFeed(t, x, api.ErrTime, 0, 899)
	wantRun(t, y, 103, begun(104, 0, 0, 132), done(109, 0, 0, 132))
	wantCounts(t, x, api.Counts{Held: 4})
}

// What is refused changes nothing: not what is held, nor what comes of it.
func TestP1RefusedFeedChangesNothing(t *testing.T) {
	x := started(t, example())
	wantFeed(t, x, api.OK, 0, 3, message(0, 4)[:2]...)
	for _, at := range []int{-1, 2, 1000} {
		wantFeed(t, x, api.ErrTime, 0, at, 7, 7)
		wantFeed(t, x, api.ErrLine, 1, at, 7, 7)
	}
	wantFeed(t, x, api.ErrLine, 1, 3, make([]byte, 100)...)
	wantFeed(t, x, api.ErrTime, 0, 1000, make([]byte, 100)...)
	wantCounts(t, x, api.Counts{Held: 2})
	wantFeed(t, x, api.OK, 0, 3, message(0, 4)[2:]...)
	x.Run(1)
	wantRun(t, x, 4, begun(5, 0, 0, 33), done(10, 0, 0, 33))
	wantCounts(t, x, api.Counts{Clock: 10, Jobs: 1, Done: 1})
}

func TestP6FullLine(t *testing.T) {
	for n := range 70 {
		x := started(t, several())
		wantFeed(t, x, api.OK, 0, 0, bytes.Repeat([]byte{1}, n)...)
		wantCounts(t, x, api.Counts{Held: min(n, 32), Spilled: max(n-32, 0)})
		y := started(t, several())
		for range n {
			wantFeed(t, y, api.OK, 1, 0, 1)
		}
		wantCounts(t, y, api.Counts{Held: min(n, 32), Spilled: max(n-32, 0)})
	}
}

// Of what is fed to a full line the beginning is held, and each line is full by itself.
func TestP6WhatIsSpilled(t *testing.T) {
	x := started(t, several())
	wantFeed(t, x, api.OK, 0, 0, slices.Concat(make([]byte, 26), message(1, 2), message(0, 1))...)
	wantFeed(t, x, api.OK, 0, 0, 4, 5)
	wantFeed(t, x, api.OK, 1, 0, message(2, 3)...)
	wantCounts(t, x, api.Counts{Held: 36, Spilled: 4})
	wantRun(t, x, 1, begun(2, 1, 2, 40), done(6, 1, 2, 40))
	wantCounts(t, x, api.Counts{Clock: 6, Jobs: 2, Done: 1, Waiting: 1, Held: 2, Spilled: 4, Bad: 26})
}

// A line has as much place again as was read of it: what stays, and what is fed ahead of its tick, takes place.
func TestP6PlaceAgain(t *testing.T) {
	x := started(t, example())
	wantFeed(t, x, api.OK, 0, 0, 1, 1, 126, 0, 4)
	wantFeed(t, x, api.OK, 0, 4, make([]byte, 40)...)
	wantCounts(t, x, api.Counts{Held: 32, Spilled: 13})
	x.Run(1)
	wantCounts(t, x, api.Counts{Clock: 3, Held: 30, Spilled: 13, Bad: 2})
	wantFeed(t, x, api.OK, 0, 4, 1, 1, 1)
	wantCounts(t, x, api.Counts{Clock: 3, Held: 32, Spilled: 14, Bad: 2})
	x.Run(7)
	wantCounts(t, x, api.Counts{Clock: 9, Spilled: 14, Bad: 34})
	wantFeed(t, x, api.OK, 0, 9, make([]byte, 33)...)
	wantCounts(t, x, api.Counts{Clock: 9, Held: 32, Spilled: 15, Bad: 34})
}

func TestP1LongFeed(t *testing.T) {
	x := started(t, example())
	wantFeed(t, x, api.OK, 0, 0, make([]byte, 1<<20)...)
	wantCounts(t, x, api.Counts{Held: 32, Spilled: 1<<20 - 32})
	if e := x.Feed(0, 0, nil); e != api.OK {
		t.Errorf("Feed of nil = %d", e)
	}
}

func TestP2ArgumentOfNewStays(t *testing.T) {
	wantUntouched(t, func(c api.Config) {
		if x, e := tiller.New(c); e == api.OK {
			x.Feed(0, 0, message(0, 1))
			x.Run(50)
		}
	})
}

func TestP2ConfigurationIsNotKept(t *testing.T) {
	c := example()
	x := started(t, c)
	c.Tasks[0].Due = 1
	c.Tasks[0].Limits[0] = api.Limit{Window: 1, Count: 1}
	wantFeed(t, x, api.OK, 0, 0, message(0, 4)...)
	wantRun(t, x, 1, begun(2, 0, 0, 30), done(7, 0, 0, 30))
	clear(c.Tasks)
	wantFeed(t, x, api.OK, 0, 7, message(0, 4)...)
	wantRun(t, x, 8, begun(9, 1, 0, 37), done(14, 1, 0, 37))
}

func TestP2BytesOfFeedStay(t *testing.T) {
	for n := range 50 {
		b := append(slices.Repeat([]byte{126, 0, 4, 81}, 12), 201, 202, 203)
		want := slices.Clone(b)
		x := started(t, example())
		for range 3 {
			x.Feed(0, 0, b[:n])
			x.Feed(1, 0, b[:n])
			x.Feed(0, -1, b[:n])
		}
		x.Run(100)
		if !bytes.Equal(b, want) {
			t.Errorf("Feed of %d bytes left %v, want %v", n, b, want)
		}
	}
}

func TestP2BytesAreNotKept(t *testing.T) {
	x := started(t, several())
	b := message(2, 3)
	for line := range 2 {
		wantFeed(t, x, api.OK, line, 0, b[:2]...)
	}
	if e := x.Feed(0, 0, b[2:]); e != api.OK {
		t.Errorf("Feed = %d", e)
	}
	clear(b)
	wantRun(t, x, 1, begun(2, 0, 2, 40), done(6, 0, 2, 40))
	wantCounts(t, x, api.Counts{Clock: 6, Jobs: 1, Done: 1, Held: 2})
}
