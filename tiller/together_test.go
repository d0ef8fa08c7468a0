package tiller_test

import (
	"sync"
	"testing"
	"time"

	"tiller/api"
)

// Whoever has locked an executive has it alone: each call waits for that, and lets it go behind itself.
func TestWaysCallsLock(t *testing.T) {
	x := started(t, example())
	var _ sync.Locker = x
	for name, call := range map[string]func(){
		"Feed":              func() { x.Feed(0, 999, message(0, 4)) },
		"Feed (no line)":    func() { x.Feed(9, 0, nil) },
		"Feed (no time)":    func() { x.Feed(0, -1, nil) },
		"Run":               func() { x.Run(1) },
		"Run (not a round)": func() { x.Run(0) },
		"Counts":            func() { x.Counts() },
	} {
		answered := make(chan bool)
		x.Lock()
		go func() {
			call()
			close(answered)
		}()
		select {
		case <-answered:
			t.Errorf("%s did not wait", name)
		case <-time.After(20 * time.Millisecond):
		}
		x.Unlock()
		<-answered
		if !x.TryLock() {
			t.Fatalf("%s did not let go", name)
		}
		x.Unlock()
	}
}

// Another executive does not wait.
func TestWaysEachItsOwnLock(t *testing.T) {
	x, y := started(t, example()), started(t, example())
	x.Lock()
	defer x.Unlock()
	wantFeed(t, y, api.OK, 0, 0, message(0, 4)...)
	wantRun(t, y, 1, begun(2, 0, 0, 30), done(7, 0, 0, 30))
}

// Of calls that come from many goroutines at a time each is whole: no byte, job or event is there twice or not at all.
func TestP1CallsAtATime(t *testing.T) {
	x := started(t, quick())
	var all sync.WaitGroup
	var lock sync.Mutex
	fed, seen := 0, map[api.Event]int{}
	for i := range 8 {
		all.Go(func() {
			for range 100 {
				if x.Feed(i%4, x.Counts().Clock, message(0, 1)) == api.OK {
					lock.Lock()
					fed++
					lock.Unlock()
				}
				events := x.Run(x.Counts().Clock + 1)
				lock.Lock()
				for _, e := range events {
					seen[api.Event{Kind: e.Kind, Job: e.Job}]++
				}
				lock.Unlock()
			}
		})
	}
	all.Wait()
	n := x.Counts()
	if n.Bad != 0 || n.Unknown != 0 || n.Done == 0 || 4*(n.Jobs+n.Lost)+n.Spilled+n.Held != 4*fed || n.Jobs != n.Done+n.Waiting {
		t.Errorf("%d messages were fed: Counts = %+v", fed, n)
	}
	for job := range n.Done {
		for _, kind := range []int{api.Begun, api.Done} {
			if seen[api.Event{Kind: kind, Job: job}] != 1 {
				t.Errorf("job %d: %v", job, seen)
			}
		}
	}
	if seen[api.Event{Kind: api.Lost, Job: -1}] != n.Lost {
		t.Errorf("%d are lost, seen: %v", n.Lost, seen)
	}
}

// A line that is filled from many goroutines at a time holds no more than it can.
func TestP6FullLineAtATime(t *testing.T) {
	x := started(t, example())
	var all sync.WaitGroup
	for range 8 {
		all.Go(func() {
			for range 500 {
				x.Feed(0, 0, []byte{1})
			}
		})
	}
	all.Wait()
	wantCounts(t, x, api.Counts{Held: 32, Spilled: 4000 - 32})
}
