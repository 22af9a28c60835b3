package cell_test

import (
	"fmt"
	"testing"

	"postrider/api"
	"postrider/cell"
)

// plain is a memory of two cells as the document's words say it, call by call, to hold the program's against.
type plain struct {
	number, writes [2]int
	locked         [2]bool
	who            [2]int
}

// act is one call, by its name, and its arguments.
type act struct {
	call     string
	at, a, b int
}

// acts are the calls of which histories are made: those that meet in a cell, one in another, and wrong ones.
var acts = []act{
	{"store", 0, 1, 0}, {"store", 1, 2, 0}, {"add", 0, 1, 0}, {"add", 1, -3, 0},
	{"swap", 0, 1, 2}, {"swap", 0, 0, 0}, {"swap", 1, 2, 1},
	{"lock", 0, 0, 0}, {"lock", 0, 1, 0}, {"lock", 1, 1, 0},
	{"free", 0, 0, 0}, {"free", 0, 1, 0}, {"free", 1, 1, 0},
	{"store", 2, 1, 0}, {"lock", 0, 16, 0}, {"free", 0, -1, 0},
}

// do is what the document says that the call answers: a result and an error's number.
func (p *plain) do(c act) (int, int) {
	session := c.call == "lock" || c.call == "free"
	if c.at < 0 || c.at > 1 || session && (c.a < 0 || c.a > 15) {
		return 0, 2
	}
	switch c.call {
	case "store":
		p.number[c.at], p.writes[c.at] = c.a, p.writes[c.at]+1
	case "add":
		was := p.number[c.at]
		p.number[c.at], p.writes[c.at] = was+c.a, p.writes[c.at]+1
		return was, 0
	case "swap":
		if p.number[c.at] != c.a {
			return 0, 0
		}
		p.number[c.at], p.writes[c.at] = c.b, p.writes[c.at]+1
		return 1, 0
	case "lock":
		if p.locked[c.at] {
			return 0, 8
		}
		p.locked[c.at], p.who[c.at] = true, c.a
	case "free":
		if !p.locked[c.at] || p.who[c.at] != c.a {
			return 0, 5
		}
		p.locked[c.at] = false
	}
	return 0, 0
}

// told is what told tells of a memory that is as this one.
func (p *plain) told() string {
	s := fmt.Sprint(p.number)
	for at := range 2 {
		holder := -1
		if p.locked[at] {
			holder = p.who[at]
		}
		s += fmt.Sprint(" ", p.number[at], 0, holder, p.writes[at])
	}
	return s
}

// done is the program's answer to the call, in the same form.
func done(m *cell.Memory, c act) (int, int) {
	r, e := 0, api.OK
	switch c.call {
	case "store":
		e = m.Store(c.at, c.a)
	case "add":
		r, e = m.Add(c.at, c.a)
	case "swap":
		var is bool
		if is, e = m.Swap(c.at, c.a, c.b); is {
			r = 1
		}
	case "lock":
		e = m.Lock(c.at, c.a)
	case "free":
		e = m.Free(c.at, c.a)
	}
	return r, int(e)
}

// 1.1 to 1.6, P1, P2: each history of four calls answers, and leaves, what the document's words say.
func TestHistories(t *testing.T) {
	var from func(m *cell.Memory, p plain, past []act)
	from = func(m *cell.Memory, p plain, past []act) {
		for _, c := range acts {
			n, q := m.Copy(), p
			r, e := done(n, c)
			wantR, wantE := q.do(c)
			if r != wantR || e != wantE || told(n, 2) != q.told() {
				t.Fatalf("%v behind %v: %d, %d, then %s; want %d, %d, then %s", c, past, r, e, told(n, 2), wantR, wantE, q.told())
			}
			if len(past) < 3 {
				from(n, q, append(past[:len(past):len(past)], c))
			}
		}
	}
	from(made(t, 2), plain{}, nil)
}
