package config

import "tiller/api"

// Parse gives the configuration whose bytes b are; false, if there is none.
func Parse(b []byte) (api.Config, bool) {
	if len(b) < 2 || b[0] != head || sum(b) != 0 {
		return api.Config{}, false
	}
	r := reader{rest: b[1 : len(b)-1]}
	c := r.config()
	if r.bad || len(r.rest) > 0 || !Valid(c) {
		return api.Config{}, false
	}
	return c, true
}

// reader takes numbers from the front of rest. When something is wrong it turns bad and
// goes on with zeros, so that only the end of the reading has to ask.
type reader struct {
	rest []byte
	bad  bool
}

func (r *reader) config() api.Config {
	var c api.Config
	c.Lines = r.one()
	c.Room = r.one()
	c.Poll = r.one()
	c.Idle = r.one()
	c.Switch = r.one()
	c.Tasks = make([]api.Task, r.length(api.MaxTasks))
	for i := range c.Tasks {
		c.Tasks[i] = r.task()
	}
	return c
}

func (r *reader) task() api.Task {
	var t api.Task
	t.Cost = r.one()
	t.Due = r.two()
	t.Limits = make([]api.Limit, r.length(api.MaxLimits))
	for i := range t.Limits {
		t.Limits[i].Window = r.two()
		t.Limits[i].Count = r.one()
	}
	return t
}

// length refuses what is over most at once, so that no bytes ask for more memory than a configuration has.
func (r *reader) length(most int) int {
	n := r.one()
	if n > most {
		r.bad = true
		return 0
	}
	return n
}

func (r *reader) two() int {
	high := r.one()
	low := r.one()
	return high<<8 | low
}

func (r *reader) one() int {
	if len(r.rest) == 0 {
		r.bad = true
		return 0
	}
	n := int(r.rest[0])
	r.rest = r.rest[1:]
	return n
}
