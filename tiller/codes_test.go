package tiller_test

import (
	"bytes"
	"math"
	"reflect"
	"slices"
	"testing"

	"tiller/api"
	"tiller/tiller"
)

// example is the first one of the document, and exampleBytes are its bytes.
func example() api.Config {
	return api.Config{Lines: 1, Room: 2, Poll: 2, Idle: 1, Switch: 1, Tasks: []api.Task{
		{Cost: 5, Due: 30, Limits: []api.Limit{{Window: 20, Count: 1}}},
	}}
}

func exampleBytes() []byte {
	return []byte{84, 1, 2, 2, 1, 1, 1, 5, 0, 30, 1, 0, 20, 1, 107}
}

// pair has two tasks, the second one with two limits between which there is room.
func pair() api.Config {
	return api.Config{Lines: 2, Room: 3, Poll: 4, Idle: 5, Switch: 6, Tasks: []api.Task{
		{Cost: 7, Due: 300, Limits: []api.Limit{{Window: 20, Count: 8}}},
		{Cost: 9, Due: 40, Limits: []api.Limit{{Window: 100, Count: 10}, {Window: 258, Count: 15}}},
	}}
}

func pairBytes() []byte {
	return summed(84, 2, 3, 4, 5, 6, 2,
		7, 1, 44, 1, 0, 20, 8,
		9, 0, 40, 2, 0, 100, 10, 1, 2, 15)
}

func least() api.Config {
	return api.Config{Lines: 1, Room: 1, Poll: 1, Tasks: []api.Task{
		{Cost: 1, Due: 1, Limits: []api.Limit{{Window: 1, Count: 1}}},
	}}
}

func greatest() api.Config {
	c := api.Config{Lines: 4, Room: 40, Poll: 20, Idle: 20, Switch: 20}
	for range 6 {
		c.Tasks = append(c.Tasks, api.Task{Cost: 50, Due: 400, Limits: []api.Limit{
			{Window: 498, Count: 18}, {Window: 499, Count: 19}, {Window: 500, Count: 20},
		}})
	}
	return c
}

func greatestBytes() []byte {
	b := []byte{84, 4, 40, 20, 20, 20, 6}
	for range 6 {
		b = append(b, 50, 1, 144, 3, 1, 242, 18, 1, 243, 19, 1, 244, 20)
	}
	return summed(b...)
}

// summed gives the bytes and the one with which their sum is 0 modulo 256.
func summed(b ...byte) []byte {
	rest := 0
	for _, n := range b {
		rest += int(n)
	}
	return append(slices.Clone(b), byte((256-rest%256)%256))
}

// resummed mends the last byte of b.
func resummed(b []byte) []byte {
	return summed(b[:len(b)-1]...)
}

var known = []struct {
	name   string
	config func() api.Config
	bytes  func() []byte
}{
	{"example", example, exampleBytes},
	{"pair", pair, pairBytes},
	{"least", least, func() []byte { return summed(84, 1, 1, 1, 0, 0, 1, 1, 0, 1, 1, 0, 1, 1) }},
	{"greatest", greatest, greatestBytes},
}

func wantRefusedConfig(t *testing.T, c api.Config) {
	t.Helper()
	if b, e := tiller.Encode(c); b != nil || e != api.ErrConfig {
		t.Errorf("Encode(%+v) = %v, %d, want nothing and ErrConfig", c, b, e)
	}
}

func wantRefusedBytes(t *testing.T, b []byte) {
	t.Helper()
	if c, e := tiller.Decode(b); !reflect.DeepEqual(c, api.Config{}) || e != api.ErrBytes {
		t.Errorf("Decode(%v) = %+v, %d, want nothing and ErrBytes", b, c, e)
	}
}

func TestP3KnownBytes(t *testing.T) {
	for _, k := range known {
		if b, e := tiller.Encode(k.config()); e != api.OK || !bytes.Equal(b, k.bytes()) {
			t.Errorf("%s: Encode = %v, %d, want %v", k.name, b, e, k.bytes())
		}
	}
}

func TestP4KnownBytes(t *testing.T) {
	for _, k := range known {
		if c, e := tiller.Decode(k.bytes()); e != api.OK || !reflect.DeepEqual(c, k.config()) {
			t.Errorf("%s: Decode = %+v, %d, want %+v", k.name, c, e, k.config())
		}
	}
}

// fields are the numbers of pair: where each lies among its bytes, and between which
// bounds it may be while all others stay as they are.
var fields = []struct {
	name        string
	of          func(c *api.Config) *int
	place, size int
	least, most int
}{
	{"Lines", func(c *api.Config) *int { return &c.Lines }, 1, 1, 1, 4},
	{"Room", func(c *api.Config) *int { return &c.Room }, 2, 1, 1, 40},
	{"Poll", func(c *api.Config) *int { return &c.Poll }, 3, 1, 1, 20},
	{"Idle", func(c *api.Config) *int { return &c.Idle }, 4, 1, 0, 20},
	{"Switch", func(c *api.Config) *int { return &c.Switch }, 5, 1, 0, 20},
	{"first Cost", func(c *api.Config) *int { return &c.Tasks[0].Cost }, 7, 1, 1, 50},
	{"first Due", func(c *api.Config) *int { return &c.Tasks[0].Due }, 8, 2, 1, 400},
	{"only Window", func(c *api.Config) *int { return &c.Tasks[0].Limits[0].Window }, 11, 2, 1, 500},
	{"only Count", func(c *api.Config) *int { return &c.Tasks[0].Limits[0].Count }, 13, 1, 1, 20},
	{"second Cost", func(c *api.Config) *int { return &c.Tasks[1].Cost }, 14, 1, 1, 50},
	{"second Due", func(c *api.Config) *int { return &c.Tasks[1].Due }, 15, 2, 1, 400},
	{"Window ahead", func(c *api.Config) *int { return &c.Tasks[1].Limits[0].Window }, 18, 2, 1, 257},
	{"Count ahead", func(c *api.Config) *int { return &c.Tasks[1].Limits[0].Count }, 20, 1, 1, 14},
	{"Window behind", func(c *api.Config) *int { return &c.Tasks[1].Limits[1].Window }, 21, 2, 101, 500},
	{"Count behind", func(c *api.Config) *int { return &c.Tasks[1].Limits[1].Count }, 23, 1, 11, 20},
}

// withField gives pair's bytes with n at a field's place.
func withField(place, size, n int) []byte {
	b := pairBytes()
	if size == 2 {
		b[place] = byte(n / 256)
		b[place+1] = byte(n % 256)
	} else {
		b[place] = byte(n)
	}
	return resummed(b)
}

func TestP3EachNumber(t *testing.T) {
	for _, f := range fields {
		for n := f.least; n <= f.most; n++ {
			c := pair()
			*f.of(&c) = n
			want := withField(f.place, f.size, n)
			if b, e := tiller.Encode(c); e != api.OK || !bytes.Equal(b, want) {
				t.Errorf("%s %d: Encode = %v, %d, want %v", f.name, n, b, e, want)
			}
		}
		wrong := []int{f.least - 1, f.most + 1, -1, -f.most, f.least + 256, f.least + 65536, f.most - 65536, math.MinInt, math.MinInt + f.least, math.MaxInt}
		for _, n := range wrong {
			if f.least <= n && n <= f.most {
				continue
			}
			c := pair()
			*f.of(&c) = n
			wantRefusedConfig(t, c)
		}
	}
}

func TestP4EachNumber(t *testing.T) {
	for _, f := range fields {
		top := 255
		if f.size == 2 {
			top = 65535
		}
		for n := 0; n <= top; n++ {
			b := withField(f.place, f.size, n)
			if n < f.least || n > f.most {
				wantRefusedBytes(t, b)
				continue
			}
			want := pair()
			*f.of(&want) = n
			if c, e := tiller.Decode(b); e != api.OK || !reflect.DeepEqual(c, want) {
				t.Errorf("%s %d: Decode = %+v, %d, want %+v", f.name, n, c, e, want)
			}
		}
	}
}

func tasks(n int) []api.Task {
	l := make([]api.Task, n)
	for i := range l {
		l[i] = api.Task{Cost: 1 + i%50, Due: 300, Limits: limits(1)}
	}
	return l
}

func limits(n int) []api.Limit {
	l := make([]api.Limit, n)
	for i := range l {
		l[i] = api.Limit{Window: i + 1, Count: i + 1}
	}
	return l
}

func TestP3HowManyTasksAndLimits(t *testing.T) {
	for _, n := range []int{1, 2, 3, 4, 5, 6} {
		c := example()
		c.Tasks = tasks(n)
		if b, e := tiller.Encode(c); e != api.OK || len(b) != 8+7*n || int(b[6]) != n {
			t.Errorf("%d tasks: Encode = %v, %d", n, b, e)
		}
	}
	for _, n := range []int{0, 7, 8, 255, 256, 257, 262} {
		c := example()
		c.Tasks = tasks(n)
		wantRefusedConfig(t, c)
	}
	for _, n := range []int{1, 2, 3} {
		c := example()
		c.Tasks[0].Limits = limits(n)
		if b, e := tiller.Encode(c); e != api.OK || len(b) != 12+3*n || int(b[10]) != n {
			t.Errorf("%d limits: Encode = %v, %d", n, b, e)
		}
	}
	for _, n := range []int{0, 4, 5, 20, 256, 257} {
		c := example()
		c.Tasks[0].Limits = limits(n)
		wantRefusedConfig(t, c)
	}
}

func TestP4HowManyTasksAndLimits(t *testing.T) {
	for n := range 256 {
		b := []byte{84, 1, 2, 2, 1, 1, byte(n)}
		for range n {
			b = append(b, 5, 0, 30, 1, 0, 20, 1)
		}
		c, e := tiller.Decode(summed(b...))
		if ok := 1 <= n && n <= 6; ok != (e == api.OK) || ok && len(c.Tasks) != n || !ok && e != api.ErrBytes {
			t.Errorf("%d tasks: Decode = %+v, %d", n, c, e)
		}
		b = []byte{84, 1, 2, 2, 1, 1, 1, 5, 0, 30, byte(n)}
		for i := range n {
			b = append(b, 0, byte(i+1), byte(i+1))
		}
		c, e = tiller.Decode(summed(b...))
		if ok := 1 <= n && n <= 3; ok != (e == api.OK) || ok && len(c.Tasks[0].Limits) != n || !ok && e != api.ErrBytes {
			t.Errorf("%d limits: Decode = %+v, %d", n, c, e)
		}
	}
}

// The numbers of tasks and limits must be those that are there.
func TestP4OtherNumbersThanThere(t *testing.T) {
	for _, place := range []int{6, 10, 17} {
		for n := range 256 {
			b := pairBytes()
			if int(b[place]) != n {
				b[place] = byte(n)
				wantRefusedBytes(t, resummed(b))
			}
		}
	}
}

func TestP3LimitsInOrder(t *testing.T) {
	for _, l := range [][]api.Limit{
		{{Window: 20, Count: 1}, {Window: 20, Count: 2}},
		{{Window: 20, Count: 1}, {Window: 21, Count: 1}},
		{{Window: 20, Count: 2}, {Window: 19, Count: 3}},
		{{Window: 20, Count: 2}, {Window: 21, Count: 1}},
		{{Window: 20, Count: 2}, {Window: 20, Count: 2}},
		{{Window: 20, Count: 2}, {Window: 40, Count: 4}, {Window: 30, Count: 5}},
		{{Window: 20, Count: 2}, {Window: 40, Count: 4}, {Window: 50, Count: 3}},
	} {
		c := pair()
		c.Tasks[1].Limits = l
		wantRefusedConfig(t, c)
	}
	// Only the limits of one task follow one another.
	c := example()
	c.Tasks = append(tasks(1), example().Tasks[0], tasks(1)[0])
	if _, e := tiller.Encode(c); e != api.OK {
		t.Errorf("limits of three tasks: %d", e)
	}
}

func TestP4Sum(t *testing.T) {
	for _, k := range known {
		for i := range k.bytes() {
			for d := 1; d < 256; d++ {
				b := k.bytes()
				b[i] += byte(d)
				wantRefusedBytes(t, b)
			}
		}
	}
}

func TestP4Head(t *testing.T) {
	for n := range 256 {
		if n != 84 {
			b := exampleBytes()
			b[0] = byte(n)
			wantRefusedBytes(t, resummed(b))
		}
	}
}

func TestP4Length(t *testing.T) {
	wantRefusedBytes(t, nil)
	wantRefusedBytes(t, []byte{})
	for n := range 256 {
		wantRefusedBytes(t, []byte{byte(n)})
		wantRefusedBytes(t, []byte{84, byte(n)})
	}
	for _, k := range known {
		b := k.bytes()
		for i := range b {
			wantRefusedBytes(t, b[:i])
			if i > 0 {
				wantRefusedBytes(t, resummed(b[:i]))
			}
		}
		for n := 1; n < 40; n++ {
			longer := append(k.bytes(), make([]byte, n)...)
			wantRefusedBytes(t, longer)
			wantRefusedBytes(t, summed(append(b[:len(b)-1:len(b)-1], make([]byte, n)...)...))
		}
		wantRefusedBytes(t, append(k.bytes(), k.bytes()...))
	}
	wantRefusedBytes(t, make([]byte, 1<<20))
}

func TestP1ErrorsGiveNothing(t *testing.T) {
	wantRefusedConfig(t, api.Config{})
	wantRefusedConfig(t, api.Config{Tasks: []api.Task{}})
	c := example()
	c.Tasks[0].Limits = []api.Limit{}
	wantRefusedConfig(t, c)
	// The fault is found last, when all else has been read.
	b := pairBytes()
	b[len(b)-2] = 0
	wantRefusedBytes(t, resummed(b))
}

// At whatever numbers there are, Encode answers bytes just when Decode gives the same back.
func TestP1AnyNumbers(t *testing.T) {
	numbers := []int{math.MinInt, math.MinInt32, -256, -1, 0, 1, 2, 20, 21, 50, 255, 256, 400, 500, 65537, math.MaxInt32, math.MaxInt}
	for _, f := range fields {
		for _, g := range fields {
			for _, n := range numbers {
				for _, m := range numbers {
					c := pair()
					*f.of(&c) = n
					*g.of(&c) = m
					b, e := tiller.Encode(c)
					if e == api.ErrConfig && b == nil {
						continue
					}
					if d, back := tiller.Decode(b); e != api.OK || back != api.OK || !reflect.DeepEqual(c, d) {
						t.Fatalf("Encode(%+v) = %v, %d; Decode = %+v, %d", c, b, e, d, back)
					}
				}
			}
		}
	}
}

// At whatever bytes there are, Decode answers a configuration just when Encode gives the same back.
func FuzzP1AnyBytes(f *testing.F) {
	for _, k := range known {
		f.Add(k.bytes())
	}
	f.Fuzz(func(t *testing.T, b []byte) {
		for _, b := range [][]byte{b, summed(b...)} {
			c, e := tiller.Decode(b)
			if e == api.ErrBytes && reflect.DeepEqual(c, api.Config{}) {
				continue
			}
			if again, back := tiller.Encode(c); e != api.OK || back != api.OK || !bytes.Equal(again, b) {
				t.Errorf("Decode(%v) = %+v, %d; Encode = %v, %d", b, c, e, again, back)
			}
		}
	})
}

func TestP1SameAnswerAgain(t *testing.T) {
	for range 3 {
		for _, k := range known {
			wantRefusedConfig(t, api.Config{})
			wantRefusedBytes(t, k.bytes()[1:])
			b, _ := tiller.Encode(k.config())
			c, _ := tiller.Decode(k.bytes())
			if !bytes.Equal(b, k.bytes()) || !reflect.DeepEqual(c, k.config()) {
				t.Errorf("%s: %v, %+v", k.name, b, c)
			}
		}
	}
}

// roomy gives c with spare room behind each of its lists, filled with what is no configuration's.
func roomy(c api.Config) api.Config {
	for i, t := range c.Tasks {
		c.Tasks[i].Limits = append(slices.Clone(t.Limits), api.Limit{Window: -7, Count: -7})[:len(t.Limits)]
	}
	c.Tasks = append(slices.Clone(c.Tasks), api.Task{Cost: -7, Due: -7})[:len(c.Tasks)]
	return c
}

func TestP2ArgumentOfEncodeStays(t *testing.T) {
	for _, k := range known {
		for _, lines := range []int{k.config().Lines, 0} {
			c := roomy(k.config())
			c.Lines = lines
			tiller.Encode(c)
			n := len(c.Tasks)
			if !reflect.DeepEqual(c.Tasks, k.config().Tasks) || !reflect.DeepEqual(c.Tasks[:n+1][n], api.Task{Cost: -7, Due: -7}) {
				t.Errorf("%s: tasks have become %+v", k.name, c.Tasks[:n+1])
			}
			for _, task := range c.Tasks {
				n := len(task.Limits)
				if task.Limits[:n+1][n] != (api.Limit{Window: -7, Count: -7}) {
					t.Errorf("%s: limits have become %+v", k.name, task.Limits[:n+1])
				}
			}
		}
	}
}

func TestP2ArgumentOfDecodeStays(t *testing.T) {
	for _, k := range known {
		for n := range len(k.bytes()) + 1 {
			b := append(k.bytes(), 201, 202, 203)
			want := slices.Clone(b)
			tiller.Decode(b[:n])
			if !bytes.Equal(b, want) {
				t.Errorf("%s: Decode of %d bytes left %v, want %v", k.name, n, b, want)
			}
		}
	}
}

func TestP2NothingIsKept(t *testing.T) {
	for _, k := range known {
		c, b := k.config(), k.bytes()
		encoded, _ := tiller.Encode(c)
		decoded, _ := tiller.Decode(b)
		for i := range c.Tasks {
			clear(c.Tasks[i].Limits)
		}
		clear(c.Tasks)
		clear(b)
		if !bytes.Equal(encoded, k.bytes()) || !reflect.DeepEqual(decoded, k.config()) {
			t.Errorf("%s: answers have become %v, %+v", k.name, encoded, decoded)
		}
	}
}

func TestP2BytesAreTheCallers(t *testing.T) {
	for _, k := range known {
		first, _ := tiller.Encode(k.config())
		second, _ := tiller.Encode(k.config())
		whole := first[:cap(first)]
		for i := range whole {
			whole[i] = 99
		}
		third, _ := tiller.Encode(k.config())
		if !bytes.Equal(second, k.bytes()) || !bytes.Equal(third, k.bytes()) {
			t.Errorf("%s: %v, %v, want %v", k.name, second, third, k.bytes())
		}
	}
}

// Each list of a configuration is overwritten in turn, its spare room too: no other may change.
func TestP2ListsOfAConfigurationAreTheCallers(t *testing.T) {
	for _, k := range known {
		for i := range k.config().Tasks {
			c, _ := tiller.Decode(k.bytes())
			other, _ := tiller.Decode(k.bytes())
			l := c.Tasks[i].Limits
			l = l[:cap(l)]
			for j := range l {
				l[j] = api.Limit{Window: 99, Count: 99}
			}
			c.Tasks[i].Limits = slices.Clone(k.config().Tasks[i].Limits)
			if !reflect.DeepEqual(c, k.config()) {
				t.Errorf("%s: writing into the limits of task %d made it %+v", k.name, i, c)
			}
			clear(c.Tasks[:cap(c.Tasks)])
			later, _ := tiller.Decode(k.bytes())
			if !reflect.DeepEqual(other, k.config()) || !reflect.DeepEqual(later, k.config()) {
				t.Errorf("%s: other answers have become %+v, %+v", k.name, other, later)
			}
		}
	}
}
