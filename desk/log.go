package desk

import (
	"slices"

	"taffrail/api"
	"taffrail/code"
)

// replayed: a clerk who has done all requests of a log again, from its first sailing on.
func replayed(first api.Sailing, l api.Log) (clerk, api.Errno) {
	c, e := clerkOf(first)
	if e != api.OK {
		return clerk{}, e
	}
	if len(l.Done) > api.MaxLog {
		return clerk{}, api.ErrMany
	}
	if !isWritten(l) {
		return clerk{}, api.ErrRange
	}
	for i, d := range l.Done {
		if e := code.Check(d.Ask); e != api.OK {
			return clerk{}, e
		}
		if numbered(l.Done[:i], d.Ask.Number) >= 0 {
			return clerk{}, api.ErrTwice
		}
		if c.do(d.Ask) != d.Answer {
			return clerk{}, api.ErrState
		}
	}
	return c, api.OK
}

// numbered: at which place a request of that Number is, or below 0.
func numbered(l []api.Done, number int) int {
	return slices.IndexFunc(l, func(d api.Done) bool { return d.Ask.Number == number })
}

// again: what is answered to a request whose Number one that was done has.
func again(d api.Done, a api.Ask) api.Answer {
	if d.Ask != a {
		return api.Answer{Errno: api.ErrTwice}
	}
	return d.Answer
}

// front of a log, of so many requests, in memory of its own.
func front(l api.Log, n, written int) api.Log {
	return api.Log{Done: append([]api.Done(nil), l.Done[:n]...), Written: written}
}

// more: a log with a request behind all. What is answered must not be lost, so all are written.
func more(l api.Log, d api.Done) api.Log {
	n := len(l.Done)
	next := front(l, n, n+1)
	next.Done = append(next.Done, d)
	return next
}

// isWritten: are as many there as are said to be written?
func isWritten(l api.Log) bool { return 0 <= l.Written && l.Written <= len(l.Done) }
