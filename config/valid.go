// Package config says what a configuration is, and what it is as bytes.
package config

import "tiller/api"

// Valid tells whether c keeps to all bounds of a configuration.
func Valid(c api.Config) bool {
	return within(c.Lines, 1, api.MaxLines) &&
		within(c.Room, 1, api.MaxRoom) &&
		within(c.Poll, 1, api.MaxPrice) &&
		within(c.Idle, 0, api.MaxPrice) &&
		within(c.Switch, 0, api.MaxPrice) &&
		validTasks(c.Tasks)
}

func validTasks(tasks []api.Task) bool {
	if !within(len(tasks), 1, api.MaxTasks) {
		return false
	}
	for _, t := range tasks {
		if !validTask(t) {
			return false
		}
	}
	return true
}

func validTask(t api.Task) bool {
	return within(t.Cost, 1, api.MaxCost) &&
		within(t.Due, 1, api.MaxDue) &&
		validLimits(t.Limits)
}

func validLimits(limits []api.Limit) bool {
	if !within(len(limits), 1, api.MaxLimits) {
		return false
	}
	// The zero limit ahead of the first one makes 1 the least Window and Count.
	var ahead api.Limit
	for _, l := range limits {
		if !within(l.Window, ahead.Window+1, api.MaxWindow) || !within(l.Count, ahead.Count+1, api.MaxCount) {
			return false
		}
		ahead = l
	}
	return true
}

func within(n, least, most int) bool {
	return least <= n && n <= most
}
