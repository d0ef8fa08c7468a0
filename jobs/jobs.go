// Package jobs keeps the jobs that wait, so that the one that must be done first is at hand.
package jobs

import "container/heap"

// Job is a message that has come to wait.
type Job struct {
	Number, Task, Cost, Deadline int
}

// Queue holds the jobs that wait.
type Queue struct {
	jobs byDeadline
}

// Len is how many jobs wait.
func (q *Queue) Len() int {
	return len(q.jobs)
}

// Put lets j wait.
func (q *Queue) Put(j Job) {
	heap.Push(&q.jobs, j)
}

// Take takes out the job that must be done first; there must be one.
func (q *Queue) Take() Job {
	return heap.Pop(&q.jobs).(Job)
}

// byDeadline is a heap.Interface. Its numbers make the order of jobs with one deadline
// that in which they came, which a heap alone would not keep.
type byDeadline []Job

func (l byDeadline) Len() int {
	return len(l)
}

func (l byDeadline) Less(i, j int) bool {
	if l[i].Deadline != l[j].Deadline {
		return l[i].Deadline < l[j].Deadline
	}
	return l[i].Number < l[j].Number
}

func (l byDeadline) Swap(i, j int) {
	l[i], l[j] = l[j], l[i]
}

func (l *byDeadline) Push(j any) {
	*l = append(*l, j.(Job))
}

func (l *byDeadline) Pop() any {
	last := len(*l) - 1
	j := (*l)[last]
	*l = (*l)[:last]
	return j
}
