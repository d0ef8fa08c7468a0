package tiller_test

import (
	"math"
	"slices"
	"testing"

	"tiller/api"
	"tiller/tiller"
)

// plain is a second executive, made as plainly as can be: lists that are searched from end to end.
type plain struct {
	api.Config
	now, last int
	values    [][]byte
	ticks     [][]int
	jobs      []plainJob
	n         api.Counts
	events    []api.Event
}

type plainJob struct {
	number, task, cost, deadline int
}

func newPlain(c api.Config) *plain {
	return &plain{Config: c, values: make([][]byte, c.Lines), ticks: make([][]int, c.Lines)}
}

func (p *plain) feed(line, at int, b []byte) api.Errno {
	switch {
	case line < 0, line >= p.Lines:
		return api.ErrLine
	case at < p.now, at < p.last, at >= 1000:
		return api.ErrTime
	}
	p.last = at
	for _, value := range b {
		if len(p.values[line]) == 32 {
			p.n.Spilled++
			continue
		}
		p.values[line] = append(p.values[line], value)
		p.ticks[line] = append(p.ticks[line], at)
	}
	return api.OK
}

func (p *plain) run(until int) []api.Event {
	p.events = nil
	for p.now < until && p.now < 3000 {
		for line := range p.Lines {
			for p.step(line) {
			}
		}
		p.do()
	}
	return p.events
}

// step reads a byte or a message of a line; false, if there is none to be read now.
func (p *plain) step(line int) bool {
	ready := 0
	for _, tick := range p.ticks[line] {
		if tick <= p.now {
			ready++
		}
	}
	b := p.values[line]
	switch {
	case ready == 0:
		return false
	case b[0] != 126:
		p.n.Bad++
		p.skip(line, 1)
	case ready < 4:
		return false
	case b[2] == 0, b[1]^b[2]^b[3] != 85:
		p.n.Bad++
		p.skip(line, 1)
	default:
		p.come(int(b[1]), int(b[2]), p.ticks[line][3])
		p.skip(line, 4)
	}
	return true
}

func (p *plain) skip(line, n int) {
	p.values[line] = slices.Clone(p.values[line][n:])
	p.ticks[line] = slices.Clone(p.ticks[line][n:])
}

func (p *plain) come(task, cost, tick int) {
	if task >= len(p.Tasks) {
		p.n.Unknown++
		return
	}
	deadline := tick + p.Tasks[task].Due
	if len(p.jobs) == p.Room {
		p.n.Lost++
		p.events = append(p.events, lost(p.now, task, deadline))
		return
	}
	p.jobs = append(p.jobs, plainJob{p.n.Jobs, task, cost, deadline})
	p.n.Jobs++
}

func (p *plain) do() {
	p.now += p.Poll
	if len(p.jobs) == 0 {
		p.now += p.Idle
		return
	}
	// The jobs lie in the order of their numbers, so that of equal deadlines the least number is found first.
	first := 0
	for i, j := range p.jobs {
		if j.deadline < p.jobs[first].deadline {
			first = i
		}
	}
	j := p.jobs[first]
	p.jobs = slices.Delete(p.jobs, first, first+1)
	p.events = append(p.events, begun(p.now, j.number, j.task, j.deadline))
	p.now += p.Switch + j.cost
	p.events = append(p.events, done(p.now, j.number, j.task, j.deadline))
	p.n.Done++
}

func (p *plain) counts() api.Counts {
	n := p.n
	n.Clock = p.now
	n.Waiting = len(p.jobs)
	for _, b := range p.values {
		n.Held += len(b)
	}
	return n
}

// bytes makes messages, of which some are cut, spoilt, or of no task, and bytes between them.
func (m *mixed) bytes(tasks int) []byte {
	var b []byte
	for range m.from(0, 3) {
		switch m.from(0, 9) {
		case 0:
			b = append(b, byte(m.from(0, 255)))
		case 1:
			b = append(b, 126)
		case 2:
			b = append(b, message(byte(m.from(0, 255)), byte(m.from(0, 255)))...)
		case 3:
			b = append(b, message(byte(m.from(0, tasks)), byte(m.from(0, 3)))...)
		case 4:
			b = append(b, message(0, 5)[:m.from(0, 4)]...)
		case 5:
			b = append(b, message(0, 5)[m.from(0, 4):]...)
		case 6:
			spoilt := message(0, 5)
			spoilt[m.from(0, 3)]++
			b = append(b, spoilt...)
		default:
			b = append(b, message(byte(m.from(0, tasks-1)), byte(m.from(1, 9)))...)
		}
	}
	return b
}

// beside is an executive and the plain one beside it.
type beside struct {
	x *tiller.Exec
	p *plain
}

// call makes up a call of both, and asks for the same answer.
func (m *mixed) call(t *testing.T, b beside) {
	t.Helper()
	switch m.from(0, 9) {
	case 0, 1, 2:
		until := b.p.now + m.from(-2, 12)
		if got, want := b.x.Run(until), b.p.run(until); !slices.Equal(got, want) {
			t.Fatalf("%+v: Run(%d) = %+v, want %+v", b.p.Config, until, got, want)
		}
	default:
		line := m.from(0, b.p.Lines-1)
		at := max(b.p.now, b.p.last) + m.from(0, 4)
		if m.from(0, 19) == 0 {
			line = m.from(-1, b.p.Lines)
			at += m.from(-10, 0)
		}
		fed := m.bytes(len(b.p.Tasks))
		if got, want := b.x.Feed(line, at, fed), b.p.feed(line, at, fed); got != want {
			t.Fatalf("%+v: Feed(%d, %d, %v) = %d, want %d", b.p.Config, line, at, fed, got, want)
		}
	}
	if got, want := b.x.Counts(), b.p.counts(); got != want {
		t.Fatalf("%+v: Counts = %+v, want %+v", b.p.Config, got, want)
	}
}

// Several executives beside each other, their calls mixed: each is as if it were alone.
func TestP6P7P8ManyScripts(t *testing.T) {
	var m mixed
	var all api.Counts
	for range 150 {
		var several []beside
		for range 4 {
			c := m.config()
			c.Room = m.from(1, 12)
			several = append(several, beside{started(t, c), newPlain(c)})
		}
		for range 1000 {
			m.call(t, several[m.from(0, 3)])
		}
		for _, b := range several {
			if got, want := b.x.Run(math.MaxInt), b.p.run(math.MaxInt); !slices.Equal(got, want) {
				t.Fatalf("%+v: Run to the end = %+v, want %+v", b.p.Config, got, want)
			}
			n := b.p.counts()
			wantCounts(t, b.x, n)
			all.Done += n.Done
			all.Lost += n.Lost
			all.Unknown += n.Unknown
			all.Bad += n.Bad
			all.Spilled += n.Spilled
			all.Held += n.Held
		}
	}
	if min(all.Done, all.Lost, all.Unknown, all.Bad, all.Spilled, all.Held) < 300 {
		t.Errorf("too few of something: %+v", all)
	}
}

// At whatever numbers there are, each call ends, and answers what the plain executive does.
func TestP1AnyNumbersOfAnExecutive(t *testing.T) {
	numbers := []int{math.MinInt, math.MinInt + 1, -1001, -1, 0, 1, 3, 4, 31, 32, 999, 1000, 2999, 3000, math.MaxInt - 1, math.MaxInt}
	for _, k := range known {
		for _, until := range numbers {
			x, p := started(t, k.config()), newPlain(k.config())
			for _, line := range numbers {
				for _, at := range numbers {
					wantFeed(t, x, p.feed(line, at, message(0, 255)), line, at, message(0, 255)...)
				}
			}
			wantRun(t, x, until, p.run(until)...)
			wantCounts(t, x, p.counts())
			for _, at := range numbers {
				wantFeed(t, x, p.feed(0, at, nil), 0, at)
				wantRun(t, x, at, p.run(at)...)
			}
			wantCounts(t, x, p.counts())
		}
	}
}
