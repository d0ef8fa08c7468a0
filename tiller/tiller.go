// Package tiller: work that is done in time, and is known to be: see DOC.md.
package tiller

import (
	"sync"

	"tiller/ahead"
	"tiller/api"
	"tiller/config"
	"tiller/rounds"
)

// Exec is an executive. Its calls may come from several goroutines at a time: each one
// locks it. A caller who has locked it must let it go ahead of a call.
type Exec struct {
	sync.Mutex
	state rounds.State
}

// Encode gives a configuration's bytes (P3).
func Encode(c api.Config) ([]byte, api.Errno) {
	if !config.Valid(c) {
		return nil, api.ErrConfig
	}
	return config.Bytes(c), api.OK
}

// Decode reads them (P4).
func Decode(b []byte) (api.Config, api.Errno) {
	c, ok := config.Parse(b)
	if !ok {
		return api.Config{}, api.ErrBytes
	}
	return c, api.OK
}

// Check tells whether all will be in time (P5).
func Check(c api.Config) (api.Report, api.Errno) {
	if !config.Valid(c) {
		return api.Report{}, api.ErrConfig
	}
	return ahead.Report(c), api.OK
}

// New makes an executive (P6).
func New(c api.Config) (*Exec, api.Errno) {
	if !config.Valid(c) {
		return nil, api.ErrConfig
	}
	return &Exec{state: rounds.Start(c)}, api.OK
}

// Feed feeds bytes to a line (P6).
func (x *Exec) Feed(line int, at int, b []byte) api.Errno {
	x.Lock()
	defer x.Unlock()
	return x.state.Feed(line, at, b)
}

// Run lets it work (P7).
func (x *Exec) Run(until int) []api.Event {
	x.Lock()
	defer x.Unlock()
	return x.state.Run(until)
}

// Counts tells how things are (P8).
func (x *Exec) Counts() api.Counts {
	x.Lock()
	defer x.Unlock()
	return x.state.Counts()
}
