package code

import "taffrail/api"

// Parts of a request that its kind may name, in the order of their bytes.
const (
	id = iota
	guests
	cabin
	category
	from
	to
	level
	until
	amount
	all
)

// part of a request: how many bytes it takes, and the most that it may be.
type part struct{ bytes, most int }

var parts = [all]part{
	id:       {3, api.MaxId},
	guests:   {1, 255},
	cabin:    {1, 255},
	category: {1, 255},
	from:     {1, 255},
	to:       {1, 255},
	level:    {1, 1},
	until:    {2, 65535},
	amount:   {4, api.MaxAmount},
}

// named by a kind of requests, in the order of their bytes.
func named(kind int) []int {
	switch kind {
	case api.AskNamed:
		return []int{id, guests, cabin, from, to, level, until}
	case api.AskPromise:
		return []int{id, guests, category, level, until}
	case api.AskSure, api.AskCancel:
		return []int{id}
	case api.AskPay:
		return []int{id, amount}
	case api.AskMove:
		return []int{id, cabin}
	case api.AskDay:
		return []int{until}
	}
	return nil
}

func isKind(n int) bool { return api.AskNamed <= n && n <= api.AskClose }

// numbers that the parts of a request are; a Level is 1.
type numbers [all]int

func spread(a api.Ask) numbers {
	n := numbers{
		id:       a.Id,
		guests:   a.Guests,
		cabin:    a.Cabin,
		category: a.Category,
		from:     a.Span.From,
		to:       a.Span.To,
		until:    a.Until,
		amount:   a.Amount,
	}
	if a.Level {
		n[level] = 1
	}
	return n
}

func gather(kind, number int, n numbers) api.Ask {
	return api.Ask{
		Number:   number,
		Kind:     kind,
		Id:       n[id],
		Guests:   n[guests],
		Level:    n[level] != 0,
		Cabin:    n[cabin],
		Category: n[category],
		Span:     api.Span{From: n[from], To: n[to]},
		Until:    n[until],
		Amount:   n[amount],
	}
}
