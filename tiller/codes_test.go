package tiller_test

import (
	"bytes"
	"math"
	"reflect"
	"slices"
	"testing"

	"tiller/api"
	"tiller/tiller"
)

func wantRefusedBytes(t *testing.T, b []byte) {
	t.Helper()
	if c, e := tiller.Decode(b); !reflect.DeepEqual(c, api.Config{}) || e != api.ErrBytes {
		t.Errorf("Decode(%v) = %+v, %d, want nothing and ErrBytes", b, c, e)
	}
}

func TestP3KnownBytes(t *testing.T) {
	for _, k := range known {
		if b, e := tiller.Encode(k.config()); e != api.OK || !bytes.Equal(b, k.bytes()) {
			t.Errorf("%s: Encode = %v, %d, want %v", k.name, b, e, k.bytes())
		}
	}
}

func TestP4KnownBytes(t *testing.T) {
	for _, k := range known {
		if c, e := tiller.Decode(k.bytes()); e != api.OK || !reflect.DeepEqual(c, k.config()) {
			t.Errorf("%s: Decode = %+v, %d, want %+v", k.name, c, e, k.config())
		}
	}
}

// withField gives pair's bytes with n at a field's place.
func withField(place, size, n int) []byte {
	b := pairBytes()
	if size == 2 {
		b[place] = byte(n / 256)
		b[place+1] = byte(n % 256)
	} else {
		b[place] = byte(n)
	}
	return resummed(b)
}

func TestP3EachNumber(t *testing.T) {
	for _, f := range fields {
		for n := f.least; n <= f.most; n++ {
			c := pair()
			*f.of(&c) = n
			want := withField(f.place, f.size, n)
			if b, e := tiller.Encode(c); e != api.OK || !bytes.Equal(b, want) {
				t.Errorf("%s %d: Encode = %v, %d, want %v", f.name, n, b, e, want)
			}
		}
	}
}

func TestP3NoConfiguration(t *testing.T) {
	for _, c := range noConfigurations() {
		if b, e := tiller.Encode(c); b != nil || e != api.ErrConfig {
			t.Errorf("Encode(%+v) = %v, %d, want nothing and ErrConfig", c, b, e)
		}
	}
}

func TestP4EachNumber(t *testing.T) {
	for _, f := range fields {
		top := 255
		if f.size == 2 {
			top = 65535
		}
		for n := 0; n <= top; n++ {
			b := withField(f.place, f.size, n)
			if n < f.least || n > f.most {
				wantRefusedBytes(t, b)
				continue
			}
			want := pair()
			*f.of(&want) = n
			if c, e := tiller.Decode(b); e != api.OK || !reflect.DeepEqual(c, want) {
				t.Errorf("%s %d: Decode = %+v, %d, want %+v", f.name, n, c, e, want)
			}
		}
	}
}

func TestP3HowManyTasksAndLimits(t *testing.T) {
	for _, n := range []int{1, 2, 3, 4, 5, 6} {
		c := example()
		c.Tasks = tasks(n)
		if b, e := tiller.Encode(c); e != api.OK || len(b) != 8+7*n || int(b[6]) != n {
			t.Errorf("%d tasks: Encode = %v, %d", n, b, e)
		}
	}
	for _, n := range []int{1, 2, 3} {
		c := example()
		c.Tasks[0].Limits = limits(n)
		if b, e := tiller.Encode(c); e != api.OK || len(b) != 12+3*n || int(b[10]) != n {
			t.Errorf("%d limits: Encode = %v, %d", n, b, e)
		}
	}
}

func TestP4HowManyTasksAndLimits(t *testing.T) {
	for n := range 256 {
		b := []byte{84, 1, 2, 2, 1, 1, byte(n)}
		for range n {
			b = append(b, 5, 0, 30, 1, 0, 20, 1)
		}
		c, e := tiller.Decode(summed(b...))
		if ok := 1 <= n && n <= 6; ok != (e == api.OK) || ok && len(c.Tasks) != n || !ok && e != api.ErrBytes {
			t.Errorf("%d tasks: Decode = %+v, %d", n, c, e)
		}
		b = []byte{84, 1, 2, 2, 1, 1, 1, 5, 0, 30, byte(n)}
		for i := range n {
			b = append(b, 0, byte(i+1), byte(i+1))
		}
		c, e = tiller.Decode(summed(b...))
		if ok := 1 <= n && n <= 3; ok != (e == api.OK) || ok && len(c.Tasks[0].Limits) != n || !ok && e != api.ErrBytes {
			t.Errorf("%d limits: Decode = %+v, %d", n, c, e)
		}
	}
}

// The numbers of tasks and limits must be those that are there.
func TestP4OtherNumbersThanThere(t *testing.T) {
	for _, place := range []int{6, 10, 17} {
		for n := range 256 {
			b := pairBytes()
			if int(b[place]) != n {
				b[place] = byte(n)
				wantRefusedBytes(t, resummed(b))
			}
		}
	}
}

func TestP3LimitsOfSeveralTasks(t *testing.T) {
	// Only the limits of one task follow one another.
	c := example()
	c.Tasks = append(tasks(1), example().Tasks[0], tasks(1)[0])
	if _, e := tiller.Encode(c); e != api.OK {
		t.Errorf("limits of three tasks: %d", e)
	}
}

func TestP4Sum(t *testing.T) {
	for _, k := range known {
		for i := range k.bytes() {
			for d := 1; d < 256; d++ {
				b := k.bytes()
				b[i] += byte(d)
				wantRefusedBytes(t, b)
			}
		}
	}
}

func TestP4Head(t *testing.T) {
	for n := range 256 {
		if n != 84 {
			b := exampleBytes()
			b[0] = byte(n)
			wantRefusedBytes(t, resummed(b))
		}
	}
}

func TestP4Length(t *testing.T) {
	wantRefusedBytes(t, nil)
	wantRefusedBytes(t, []byte{})
	for n := range 256 {
		wantRefusedBytes(t, []byte{byte(n)})
		wantRefusedBytes(t, []byte{84, byte(n)})
	}
	for _, k := range known {
		b := k.bytes()
		for i := range b {
			wantRefusedBytes(t, b[:i])
			if i > 0 {
				wantRefusedBytes(t, resummed(b[:i]))
			}
		}
		for n := 1; n < 40; n++ {
			longer := append(k.bytes(), make([]byte, n)...)
			wantRefusedBytes(t, longer)
			wantRefusedBytes(t, summed(append(b[:len(b)-1:len(b)-1], make([]byte, n)...)...))
		}
		wantRefusedBytes(t, append(k.bytes(), k.bytes()...))
	}
	wantRefusedBytes(t, make([]byte, 1<<20))
}

func TestP1FaultFoundLast(t *testing.T) {
	// The fault is found last, when all else has been read.
	b := pairBytes()
	b[len(b)-2] = 0
	wantRefusedBytes(t, resummed(b))
}

// At whatever numbers there are, Encode answers bytes just when Decode gives the same back.
func TestP1AnyNumbers(t *testing.T) {
	numbers := []int{math.MinInt, math.MinInt32, -256, -1, 0, 1, 2, 20, 21, 50, 255, 256, 400, 500, 65537, math.MaxInt32, math.MaxInt}
	for _, f := range fields {
		for _, g := range fields {
			for _, n := range numbers {
				for _, m := range numbers {
					c := pair()
					*f.of(&c) = n
					*g.of(&c) = m
					b, e := tiller.Encode(c)
					if e == api.ErrConfig && b == nil {
						continue
					}
					if d, back := tiller.Decode(b); e != api.OK || back != api.OK || !reflect.DeepEqual(c, d) {
						t.Fatalf("Encode(%+v) = %v, %d; Decode = %+v, %d", c, b, e, d, back)
					}
				}
			}
		}
	}
}

// At whatever bytes there are, Decode answers a configuration just when Encode gives the same back.
func FuzzP1AnyBytes(f *testing.F) {
	for _, k := range known {
		f.Add(k.bytes())
	}
	f.Fuzz(func(t *testing.T, b []byte) {
		for _, b := range [][]byte{b, summed(b...)} {
			c, e := tiller.Decode(b)
			if e == api.ErrBytes && reflect.DeepEqual(c, api.Config{}) {
				continue
			}
			if again, back := tiller.Encode(c); e != api.OK || back != api.OK || !bytes.Equal(again, b) {
				t.Errorf("Decode(%v) = %+v, %d; Encode = %v, %d", b, c, e, again, back)
			}
		}
	})
}

func TestP1SameAnswerAgain(t *testing.T) {
	for range 3 {
		for _, k := range known {
			tiller.Encode(api.Config{})
			tiller.Decode(k.bytes()[1:])
			b, _ := tiller.Encode(k.config())
			c, _ := tiller.Decode(k.bytes())
			if !bytes.Equal(b, k.bytes()) || !reflect.DeepEqual(c, k.config()) {
				t.Errorf("%s: %v, %+v", k.name, b, c)
			}
		}
	}
}

func TestP2ArgumentOfEncodeStays(t *testing.T) {
	wantUntouched(t, func(c api.Config) { tiller.Encode(c) })
}

func TestP2ArgumentOfDecodeStays(t *testing.T) {
	for _, k := range known {
		for n := range len(k.bytes()) + 1 {
			b := append(k.bytes(), 201, 202, 203)
			want := slices.Clone(b)
			tiller.Decode(b[:n])
			if !bytes.Equal(b, want) {
				t.Errorf("%s: Decode of %d bytes left %v, want %v", k.name, n, b, want)
			}
		}
	}
}

func TestP2NothingIsKept(t *testing.T) {
	for _, k := range known {
		c, b := k.config(), k.bytes()
		encoded, _ := tiller.Encode(c)
		decoded, _ := tiller.Decode(b)
		for i := range c.Tasks {
			clear(c.Tasks[i].Limits)
		}
		clear(c.Tasks)
		clear(b)
		if !bytes.Equal(encoded, k.bytes()) || !reflect.DeepEqual(decoded, k.config()) {
			t.Errorf("%s: answers have become %v, %+v", k.name, encoded, decoded)
		}
	}
}

func TestP2BytesAreTheCallers(t *testing.T) {
	for _, k := range known {
		first, _ := tiller.Encode(k.config())
		second, _ := tiller.Encode(k.config())
		whole := first[:cap(first)]
		for i := range whole {
			whole[i] = 99
		}
		third, _ := tiller.Encode(k.config())
		if !bytes.Equal(second, k.bytes()) || !bytes.Equal(third, k.bytes()) {
			t.Errorf("%s: %v, %v, want %v", k.name, second, third, k.bytes())
		}
	}
}

// Each list of a configuration is overwritten in turn, its spare room too: no other may change.
func TestP2ListsOfAConfigurationAreTheCallers(t *testing.T) {
	for _, k := range known {
		for i := range k.config().Tasks {
			c, _ := tiller.Decode(k.bytes())
			other, _ := tiller.Decode(k.bytes())
			l := c.Tasks[i].Limits
			l = l[:cap(l)]
			for j := range l {
				l[j] = api.Limit{Window: 99, Count: 99}
			}
			c.Tasks[i].Limits = slices.Clone(k.config().Tasks[i].Limits)
			if !reflect.DeepEqual(c, k.config()) {
				t.Errorf("%s: writing into the limits of task %d made it %+v", k.name, i, c)
			}
			clear(c.Tasks[:cap(c.Tasks)])
			later, _ := tiller.Decode(k.bytes())
			if !reflect.DeepEqual(other, k.config()) || !reflect.DeepEqual(later, k.config()) {
				t.Errorf("%s: other answers have become %+v, %+v", k.name, other, later)
			}
		}
	}
}
