// Package tiller: work that is done in time, and is known to be: see DOC.md.
package tiller

import (
	"tiller/ahead"
	"tiller/api"
	"tiller/config"
)

// Exec is an executive.
type Exec struct{}

// Encode gives a configuration's bytes (P3).
func Encode(c api.Config) ([]byte, api.Errno) {
	if !config.Valid(c) {
		return nil, api.ErrConfig
	}
	return config.Bytes(c), api.OK
}

// Decode reads them (P4).
func Decode(b []byte) (api.Config, api.Errno) {
	c, ok := config.Parse(b)
	if !ok {
		return api.Config{}, api.ErrBytes
	}
	return c, api.OK
}

// Check tells whether all will be in time (P5).
func Check(c api.Config) (api.Report, api.Errno) {
	if !config.Valid(c) {
		return api.Report{}, api.ErrConfig
	}
	return ahead.Report(c), api.OK
}

// New makes an executive (P6).
func New(c api.Config) (*Exec, api.Errno) { return nil, api.OK }

// Feed feeds bytes to a line (P6).
func (x *Exec) Feed(line int, at int, b []byte) api.Errno { return api.OK }

// Run lets it work (P7).
func (x *Exec) Run(until int) []api.Event { return nil }

// Counts tells how things are (P8).
func (x *Exec) Counts() api.Counts { return api.Counts{} }
