package tiller_test

import (
	"math"
	"reflect"
	"slices"
	"testing"

	"tiller/api"
)

// example is the first one of the document, and exampleBytes are its bytes.
func example() api.Config {
	return api.Config{Lines: 1, Room: 2, Poll: 2, Idle: 1, Switch: 1, Tasks: []api.Task{
		{Cost: 5, Due: 30, Limits: []api.Limit{{Window: 20, Count: 1}}},
	}}
}

func exampleBytes() []byte {
	return []byte{84, 1, 2, 2, 1, 1, 1, 5, 0, 30, 1, 0, 20, 1, 107}
}

// pair has two tasks, the second one with two limits between which there is room.
func pair() api.Config {
	return api.Config{Lines: 2, Room: 3, Poll: 4, Idle: 5, Switch: 6, Tasks: []api.Task{
		{Cost: 7, Due: 300, Limits: []api.Limit{{Window: 20, Count: 8}}},
		{Cost: 9, Due: 40, Limits: []api.Limit{{Window: 100, Count: 10}, {Window: 258, Count: 15}}},
	}}
}

func pairBytes() []byte {
	return summed(84, 2, 3, 4, 5, 6, 2,
		7, 1, 44, 1, 0, 20, 8,
		9, 0, 40, 2, 0, 100, 10, 1, 2, 15)
}

func least() api.Config {
	return api.Config{Lines: 1, Room: 1, Poll: 1, Tasks: []api.Task{
		{Cost: 1, Due: 1, Limits: []api.Limit{{Window: 1, Count: 1}}},
	}}
}

func greatest() api.Config {
	c := api.Config{Lines: 4, Room: 40, Poll: 20, Idle: 20, Switch: 20}
	for range 6 {
		c.Tasks = append(c.Tasks, api.Task{Cost: 50, Due: 400, Limits: []api.Limit{
			{Window: 498, Count: 18}, {Window: 499, Count: 19}, {Window: 500, Count: 20},
		}})
	}
	return c
}

func greatestBytes() []byte {
	b := []byte{84, 4, 40, 20, 20, 20, 6}
	for range 6 {
		b = append(b, 50, 1, 144, 3, 1, 242, 18, 1, 243, 19, 1, 244, 20)
	}
	return summed(b...)
}

// summed gives the bytes and the one with which their sum is 0 modulo 256.
func summed(b ...byte) []byte {
	rest := 0
	for _, n := range b {
		rest += int(n)
	}
	return append(slices.Clone(b), byte((256-rest%256)%256))
}

// resummed mends the last byte of b.
func resummed(b []byte) []byte {
	return summed(b[:len(b)-1]...)
}

var known = []struct {
	name   string
	config func() api.Config
	bytes  func() []byte
}{
	{"example", example, exampleBytes},
	{"pair", pair, pairBytes},
	{"least", least, func() []byte { return summed(84, 1, 1, 1, 0, 0, 1, 1, 0, 1, 1, 0, 1, 1) }},
	{"greatest", greatest, greatestBytes},
}

// fields are the numbers of pair: where each lies among its bytes, and between which
// bounds it may be while all others stay as they are.
var fields = []struct {
	name        string
	of          func(c *api.Config) *int
	place, size int
	least, most int
}{
	{"Lines", func(c *api.Config) *int { return &c.Lines }, 1, 1, 1, 4},
	{"Room", func(c *api.Config) *int { return &c.Room }, 2, 1, 1, 40},
	{"Poll", func(c *api.Config) *int { return &c.Poll }, 3, 1, 1, 20},
	{"Idle", func(c *api.Config) *int { return &c.Idle }, 4, 1, 0, 20},
	{"Switch", func(c *api.Config) *int { return &c.Switch }, 5, 1, 0, 20},
	{"first Cost", func(c *api.Config) *int { return &c.Tasks[0].Cost }, 7, 1, 1, 50},
	{"first Due", func(c *api.Config) *int { return &c.Tasks[0].Due }, 8, 2, 1, 400},
	{"only Window", func(c *api.Config) *int { return &c.Tasks[0].Limits[0].Window }, 11, 2, 1, 500},
	{"only Count", func(c *api.Config) *int { return &c.Tasks[0].Limits[0].Count }, 13, 1, 1, 20},
	{"second Cost", func(c *api.Config) *int { return &c.Tasks[1].Cost }, 14, 1, 1, 50},
	{"second Due", func(c *api.Config) *int { return &c.Tasks[1].Due }, 15, 2, 1, 400},
	{"Window ahead", func(c *api.Config) *int { return &c.Tasks[1].Limits[0].Window }, 18, 2, 1, 257},
	{"Count ahead", func(c *api.Config) *int { return &c.Tasks[1].Limits[0].Count }, 20, 1, 1, 14},
	{"Window behind", func(c *api.Config) *int { return &c.Tasks[1].Limits[1].Window }, 21, 2, 101, 500},
	{"Count behind", func(c *api.Config) *int { return &c.Tasks[1].Limits[1].Count }, 23, 1, 11, 20},
}

func tasks(n int) []api.Task {
	l := make([]api.Task, n)
	for i := range l {
		l[i] = api.Task{Cost: 1 + i%50, Due: 300, Limits: limits(1)}
	}
	return l
}

func limits(n int) []api.Limit {
	l := make([]api.Limit, n)
	for i := range l {
		l[i] = api.Limit{Window: i + 1, Count: i + 1}
	}
	return l
}

// roomy gives c with spare room behind each of its lists, filled with what is no configuration's.
func roomy(c api.Config) api.Config {
	for i, t := range c.Tasks {
		c.Tasks[i].Limits = append(slices.Clone(t.Limits), api.Limit{Window: -7, Count: -7})[:len(t.Limits)]
	}
	c.Tasks = append(slices.Clone(c.Tasks), api.Task{Cost: -7, Due: -7})[:len(c.Tasks)]
	return c
}

// wantUntouched hands configurations with spare room to a call, and what is none too, and
// asks for all that they were.
func wantUntouched(t *testing.T, call func(c api.Config)) {
	t.Helper()
	for _, k := range known {
		for _, lines := range []int{k.config().Lines, 0} {
			c := roomy(k.config())
			c.Lines = lines
			call(c)
			n := len(c.Tasks)
			if !reflect.DeepEqual(c.Tasks, k.config().Tasks) || !reflect.DeepEqual(c.Tasks[:n+1][n], api.Task{Cost: -7, Due: -7}) {
				t.Errorf("%s: tasks have become %+v", k.name, c.Tasks[:n+1])
			}
			for _, task := range c.Tasks {
				n := len(task.Limits)
				if task.Limits[:n+1][n] != (api.Limit{Window: -7, Count: -7}) {
					t.Errorf("%s: limits have become %+v", k.name, task.Limits[:n+1])
				}
			}
		}
	}
}

// noConfigurations are what is no configuration, nearly all of them by one fault alone.
func noConfigurations() []api.Config {
	wrong := []api.Config{{}, {Tasks: []api.Task{}}}
	for _, f := range fields {
		for _, n := range []int{f.least - 1, f.most + 1, -1, -f.most, f.least + 256, f.least + 65536, f.most - 65536, math.MinInt, math.MinInt + f.least, math.MaxInt} {
			if n < f.least || n > f.most {
				c := pair()
				*f.of(&c) = n
				wrong = append(wrong, c)
			}
		}
	}
	for _, n := range []int{0, 7, 8, 255, 256, 257, 262} {
		c := example()
		c.Tasks = tasks(n)
		wrong = append(wrong, c)
	}
	c := example()
	c.Tasks = nil
	wrong = append(wrong, c)
	for _, l := range wrongLimits() {
		c := pair()
		c.Tasks[1].Limits = l
		wrong = append(wrong, c)
	}
	return wrong
}

func wrongLimits() [][]api.Limit {
	wrong := [][]api.Limit{
		nil,
		{{Window: 20, Count: 1}, {Window: 20, Count: 2}},
		{{Window: 20, Count: 1}, {Window: 21, Count: 1}},
		{{Window: 20, Count: 2}, {Window: 19, Count: 3}},
		{{Window: 20, Count: 2}, {Window: 21, Count: 1}},
		{{Window: 20, Count: 2}, {Window: 20, Count: 2}},
		{{Window: 20, Count: 2}, {Window: 40, Count: 4}, {Window: 30, Count: 5}},
		{{Window: 20, Count: 2}, {Window: 40, Count: 4}, {Window: 50, Count: 3}},
	}
	for _, n := range []int{0, 4, 5, 20, 256, 257} {
		wrong = append(wrong, limits(n))
	}
	return wrong
}
