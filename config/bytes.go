package config

import "tiller/api"

// head is the byte with which a configuration's bytes begin.
const head = 84

// Bytes gives the bytes of c, which must be valid: only then does each number fit its place.
func Bytes(c api.Config) []byte {
	b := []byte{head, byte(c.Lines), byte(c.Room), byte(c.Poll), byte(c.Idle), byte(c.Switch), byte(len(c.Tasks))}
	for _, t := range c.Tasks {
		b = appendTask(b, t)
	}
	return append(b, -sum(b))
}

func appendTask(b []byte, t api.Task) []byte {
	b = append(b, byte(t.Cost))
	b = appendTwo(b, t.Due)
	b = append(b, byte(len(t.Limits)))
	for _, l := range t.Limits {
		b = appendTwo(b, l.Window)
		b = append(b, byte(l.Count))
	}
	return b
}

func appendTwo(b []byte, n int) []byte {
	return append(b, byte(n>>8), byte(n))
}

// sum leans on a byte's wrap-round: it is the sum modulo 256.
func sum(b []byte) byte {
	var s byte
	for _, n := range b {
		s += n
	}
	return s
}
