package group_test

import (
	"fmt"
	"maps"
	"slices"
	"testing"

	"postrider/api"
	"postrider/group"
	"postrider/share"
)

// act is one call that changes a group: of a commit the first window tells of the place alone, of a seek it is the window; gen is how much greater than the group's its generation is.
type act struct {
	call        string
	id, gen, to int
	windows     []group.Window
}

func join(id int) act                          { return act{call: "join", id: id} }
func leave(id int) act                         { return act{call: "leave", id: id} }
func ack(id int) act                           { return act{call: "ack", id: id} }
func spread(windows ...group.Window) act       { return act{call: "spread", windows: windows} }
func take(id int, windows ...group.Window) act { return act{call: "take", id: id, windows: windows} }
func commit(id, gen int, w group.Window, to int) act {
	return act{"commit", id, gen, to, []group.Window{w}}
}
func seekTo(id, gen int, w group.Window, to int) act {
	return act{"seek", id, gen, to, []group.Window{w}}
}

// answer is what a call answers; what it has no such result for is zero.
type answer struct {
	settled bool
	place   api.Place
	at      int
	err     api.Errno
}

// do is the program's answer to the call.
func do(g *group.Group, c act) (a answer) {
	switch c.call {
	case "join":
		a.settled, a.err = g.Join(c.id)
	case "leave":
		a.settled, a.err = g.Leave(c.id)
	case "ack":
		a.settled, a.err = g.Ack(c.id)
	case "spread":
		a.settled, a.err = g.Spread(c.windows...)
	case "take":
		a.place, a.at, a.err = g.Take(c.id, c.windows...)
	case "commit":
		a.err = g.Commit(c.id, g.Gen()+c.gen, c.windows[0].Place, c.to)
	case "seek":
		a.err = g.Seek(c.id, g.Gen()+c.gen, c.windows[0], c.to)
	}
	return a
}

// trail is a place's track as the words say it: no span is kept, but of each offset whether it was accepted, and how many spans that makes.
type trail struct {
	from, next, spans int
	accepted          []bool
}

func (x *trail) committed() int { return x.from + len(x.accepted) }

// becomes makes all from what is committed up to an offset accepted, or skipped, if there is room for it.
func (x *trail) becomes(kind bool, to int) bool {
	if n := len(x.accepted); n == 0 || x.accepted[n-1] != kind {
		if x.spans == 256 {
			return false
		}
		x.spans++
	}
	for x.committed() < to {
		x.accepted = append(x.accepted, kind)
	}
	return true
}

// runs are the spans of a kind.
func (x *trail) runs(kind bool) []api.Span {
	list := []api.Span{}
	for i, is := range x.accepted {
		if is != kind {
			continue
		}
		if i == 0 || x.accepted[i-1] != kind {
			list = append(list, api.Span{From: x.from + i})
		}
		list[len(list)-1].To = x.from + i + 1
	}
	return list
}

// plain is a group as the document's words say it: a place that nobody has is not among the owned ones.
type plain struct {
	members     []int
	places      []api.Place
	owner, goes map[api.Place]int
	gen         int
	trails      map[api.Place]*trail
	last        map[int]api.Place
}

// fresh is a plain group that is new.
func fresh() *plain {
	return &plain{
		owner: map[api.Place]int{}, goes: map[api.Place]int{},
		trails: map[api.Place]*trail{}, last: map[int]api.Place{},
	}
}

// who is the place's owner; -1: nobody.
func who(owner map[api.Place]int, p api.Place) int {
	if id, is := owner[p]; is {
		return id
	}
	return -1
}

// owners are the places with those who have them.
func (x *plain) owners() []api.Owner {
	list := []api.Owner{}
	for _, p := range x.places {
		list = append(list, api.Owner{Place: p, Id: who(x.owner, p)})
	}
	return list
}

// revoked are the places that are to be taken from one.
func (x *plain) revoked(id int) []api.Place {
	list := []api.Place{}
	for _, p := range x.places {
		if who(x.owner, p) == id && id >= 0 && who(x.goes, p) != id {
			list = append(list, p)
		}
	}
	return list
}

// waits are those of whom something is revoked.
func (x *plain) waits() []int {
	list := []int{}
	for id := range 16 {
		if len(x.revoked(id)) > 0 {
			list = append(list, id)
		}
	}
	return list
}

// settle settles the table if it can be, and lets the trails of all places go back that have not the owner that they had.
func (x *plain) settle(was map[api.Place]int) bool {
	settled := len(x.waits()) == 0
	if settled {
		x.owner = maps.Clone(x.goes)
		x.gen++
	}
	for p, trail := range x.trails {
		if who(was, p) != who(x.owner, p) {
			trail.next = trail.committed()
		}
	}
	return settled
}

// begin begins the table anew.
func (x *plain) begin(places []api.Place) bool {
	was := maps.Clone(x.owner)
	maps.DeleteFunc(x.owner, func(p api.Place, id int) bool {
		return !slices.Contains(places, p) || !slices.Contains(x.members, id)
	})
	x.places, x.goes = places, map[api.Place]int{}
	shares, _ := share.Assign(x.members, places, x.owners()...)
	for _, o := range shares {
		if o.Id >= 0 {
			x.goes[o.Place] = o.Id
		}
	}
	return x.settle(was)
}

func noWindow(w group.Window) bool { return w.Head < 0 || w.Head > w.Tail || w.Tail > 1<<40 }

// spread is what the document says that Spread answers.
func (x *plain) spread(windows []group.Window) answer {
	places := []api.Place{}
	for _, w := range windows {
		if noWindow(w) {
			return answer{err: api.ErrArg}
		}
		places = append(places, w.Place)
	}
	if len(places) > 256 {
		return answer{err: api.ErrLong}
	}
	for i, p := range places {
		if p.Topic < 0 || p.Part < 0 || slices.Index(places, p) < i {
			return answer{err: api.ErrArg}
		}
	}
	settled := x.begin(places)
	for _, w := range windows {
		if x.trails[w.Place] == nil {
			x.trails[w.Place] = &trail{from: w.Head, next: w.Head}
		}
	}
	return answer{settled: settled}
}

// come is what the document says that Join and Leave answer.
func (x *plain) come(c act) answer {
	is := slices.Contains(x.members, c.id)
	switch {
	case c.id < 0, c.id > 15:
		return answer{err: api.ErrArg}
	case c.call == "leave" && !is:
		return answer{err: api.ErrMember}
	case c.call == "leave":
		x.members = slices.DeleteFunc(x.members, func(id int) bool { return id == c.id })
		return answer{settled: x.begin(x.places)}
	case is:
		return answer{err: api.ErrSame}
	case len(x.members) == 8:
		return answer{err: api.ErrFull}
	}
	x.members = append(x.members, c.id)
	slices.Sort(x.members)
	return answer{settled: x.begin(x.places)}
}

// pick is what the document says that Pick answers.
func (x *plain) pick(id int, windows []group.Window) (group.Window, answer) {
	if !slices.Contains(x.members, id) {
		return group.Window{}, answer{err: api.ErrMember}
	}
	first := 0
	if last, is := x.last[id]; is && slices.Contains(x.places, last) {
		first = slices.Index(x.places, last) + 1
	}
	for n := range x.places {
		p := x.places[(first+n)%len(x.places)]
		i := slices.IndexFunc(windows, func(w group.Window) bool { return w.Place == p })
		if i < 0 || noWindow(windows[i]) || who(x.owner, p) != id || who(x.goes, p) != id {
			continue
		}
		if at := max(x.trails[p].next, windows[i].Head); at < windows[i].Tail {
			return windows[i], answer{place: p, at: at}
		}
	}
	return group.Window{}, answer{err: api.ErrNone}
}

// take is what the document says that Take answers.
func (x *plain) take(c act) answer {
	w, a := x.pick(c.id, c.windows)
	if a.err != api.OK {
		return a
	}
	trail := x.trails[a.place]
	if w.Head > trail.next && !trail.becomes(false, w.Head) {
		return answer{err: api.ErrFull}
	}
	trail.next = a.at + 1
	x.last[c.id] = a.place
	return a
}

// may is why one may not commit in the act's place, or seek there.
func (x *plain) may(c act) api.Errno {
	p := c.windows[0].Place
	switch {
	case !slices.Contains(x.members, c.id):
		return api.ErrMember
	case c.gen != 0:
		return api.ErrFence
	case !slices.Contains(x.places, p):
		return api.ErrNone
	case who(x.owner, p) != c.id:
		return api.ErrFence
	case c.call == "seek" && who(x.goes, p) != c.id:
		return api.ErrShare
	case c.to < 0, c.to > 1<<40, c.call == "seek" && noWindow(c.windows[0]):
		return api.ErrArg
	}
	return api.OK
}

// mark is what the document says that Commit and Seek answer.
func (x *plain) mark(c act) api.Errno {
	if e := x.may(c); e != api.OK {
		return e
	}
	w := c.windows[0]
	trail := x.trails[w.Place]
	switch {
	case c.call == "commit" && (c.to <= trail.committed() || c.to > trail.next):
		return api.ErrWindow
	case c.call == "commit" && !trail.becomes(true, c.to):
		return api.ErrFull
	case c.call == "commit":
		return api.OK
	case c.to < w.Head, c.to > w.Tail, c.to < trail.committed():
		return api.ErrWindow
	case c.to > trail.next && !trail.becomes(false, c.to):
		return api.ErrFull
	}
	trail.next = c.to
	return api.OK
}

// do is what the document says that the call answers.
func (x *plain) do(c act) answer {
	switch c.call {
	case "join", "leave":
		return x.come(c)
	case "spread":
		return x.spread(c.windows)
	case "take":
		return x.take(c)
	case "commit", "seek":
		return answer{err: x.mark(c)}
	}
	was, gone := maps.Clone(x.owner), x.revoked(c.id)
	if len(gone) == 0 {
		return answer{err: api.ErrNone}
	}
	for _, p := range gone {
		delete(x.owner, p)
	}
	return answer{settled: x.settle(was)}
}

// behind is what the document says that Behind answers.
func (x *plain) behind(windows []group.Window) []api.Far {
	list := []api.Far{}
	for _, id := range x.members {
		far := 0
		for _, p := range x.places {
			i := slices.IndexFunc(windows, func(w group.Window) bool { return w.Place == p })
			if who(x.owner, p) == id && i >= 0 && !noWindow(windows[i]) {
				far += max(0, windows[i].Tail-max(x.trails[p].next, windows[i].Head))
			}
		}
		list = append(list, api.Far{Id: id, Behind: far})
	}
	return list
}

// differs is where a group is not as the plain one, as these sessions, and windows of these lists, tell; "": nowhere.
func (x *plain) differs(g *group.Group, ids []int, lists ...[]group.Window) string {
	switch {
	case !slices.Equal(g.Members(), x.members):
		return fmt.Sprint("Members: ", g.Members(), ", want ", x.members)
	case g.Gen() != x.gen:
		return fmt.Sprint("Gen: ", g.Gen(), ", want ", x.gen)
	case !slices.Equal(g.Owners(), x.owners()):
		return fmt.Sprint("Owners: ", g.Owners(), ", want ", x.owners())
	case !slices.Equal(g.Waits(), x.waits()):
		return fmt.Sprint("Waits: ", g.Waits(), ", want ", x.waits())
	}
	for p, trail := range x.trails {
		committed, next, e := g.Marks(p)
		if committed != trail.committed() || next != trail.next || e != api.OK {
			return fmt.Sprint("Marks of ", p, ": ", committed, next, int(e), ", want ", trail.committed(), trail.next)
		}
		l := g.Ledger(p)
		if l.From() != trail.from || !slices.Equal(l.Accepted(), trail.runs(true)) || !slices.Equal(l.Skipped(), trail.runs(false)) {
			return fmt.Sprint("Ledger of ", p, ": ", l.From(), l.Accepted(), l.Skipped(), ", want ", trail.from, trail.runs(true), trail.runs(false))
		}
	}
	for _, windows := range lists {
		for _, w := range windows {
			if _, _, e := g.Marks(w.Place); (e != api.OK) != (x.trails[w.Place] == nil) || e != api.OK && e != api.ErrNone {
				return fmt.Sprint("Marks of ", w.Place, ": ", int(e))
			}
		}
		for _, id := range ids {
			_, want := x.pick(id, windows)
			if p, at, e := g.Pick(id, windows...); (answer{place: p, at: at, err: e}) != want {
				return fmt.Sprint("Pick of ", id, " in ", windows, ": ", p, at, int(e), ", want ", want)
			}
		}
		if got, want := g.Behind(windows...), x.behind(windows); !slices.Equal(got, want) {
			return fmt.Sprint("Behind of ", windows, ": ", got, ", want ", want)
		}
	}
	return ""
}

// ahead is what a group told ahead of a call: who had which place, and how far each was.
type ahead struct {
	gen    int
	owners map[api.Place]int
	marks  map[api.Place][2]int
}

func look(g *group.Group, trails map[api.Place]*trail) ahead {
	a := ahead{g.Gen(), map[api.Place]int{}, map[api.Place][2]int{}}
	for _, o := range g.Owners() {
		if o.Id >= 0 {
			a.owners[o.Place] = o.Id
		}
	}
	for p := range trails {
		committed, next, _ := g.Marks(p)
		a.marks[p] = [2]int{committed, next}
	}
	return a
}

// pair is a group, and the plain one that it is held against. Beside it stands what promises are held against: the offset of each place that was delivered last in this generation, and since no seek; and the places that nobody was delivered anything of, or sought in, since they changed hands.
type pair struct {
	group  *group.Group
	plain  *plain
	last   map[api.Place]int
	handed map[api.Place]int
}

func both() *pair {
	return &pair{group.Make(), fresh(), map[api.Place]int{}, map[api.Place]int{}}
}

// broken tells what of 19.4 to 19.7 a call that answered so does not keep; "": nothing.
func (x *pair) broken(was ahead, c act, got answer) string {
	now := look(x.group, x.plain.trails)
	place := got.place
	if c.call == "commit" || c.call == "seek" {
		place = c.windows[0].Place
	}
	for p, mark := range was.marks {
		stays := who(was.owners, p) == who(now.owners, p)
		switch {
		case got.err != api.OK && now.marks[p] != mark:
			return fmt.Sprint("P2: it was refused, and of ", p, " ", mark, " became ", now.marks[p])
		case c.windows != nil && c.call != "spread" && p != place && now.marks[p] != mark:
			return fmt.Sprint("19.7: of ", p, " ", mark, " became ", now.marks[p])
		case !stays && now.marks[p] != [2]int{mark[0], mark[0]}:
			return fmt.Sprint("19.5: ", p, " changed hands, and ", mark, " became ", now.marks[p])
		case p != place && stays && now.marks[p] != mark:
			return fmt.Sprint("19.5: ", p, " did not change hands, and ", mark, " became ", now.marks[p])
		}
		if !stays {
			x.handed[p] = 1
			delete(x.last, p)
		}
	}
	if now.gen != was.gen {
		clear(x.last)
	}
	if got.err != api.OK {
		return ""
	}
	return x.moved(was, c, got)
}

// moved tells what a delivery, a commit or a seek that was not refused does not keep; "": nothing.
func (x *pair) moved(was ahead, c act, got answer) string {
	switch c.call {
	case "take":
		p, head := got.place, c.windows[slices.IndexFunc(c.windows, func(w group.Window) bool { return w.Place == got.place })].Head
		if who(was.owners, p) != c.id {
			return fmt.Sprint("19.4: ", p, " is ", who(was.owners, p), "'s, and was delivered to ", c.id)
		}
		if last, is := x.last[p]; is && got.at <= last {
			return fmt.Sprint("19.5: of ", p, " ", got.at, " was delivered behind ", last)
		}
		if x.handed[p] > 0 && got.at != max(was.marks[p][0], head) {
			return fmt.Sprint("19.5: ", p, " changed hands, and ", got.at, " was delivered, with ", was.marks[p], " and head ", head)
		}
		x.last[p] = got.at
		delete(x.handed, p)
	case "commit":
		if p := c.windows[0].Place; who(was.owners, p) != c.id || c.gen != 0 {
			return fmt.Sprint("19.6: ", p, " is ", who(was.owners, p), "'s, and ", c.id, " committed, ", c.gen, " generations off")
		}
	case "seek":
		delete(x.last, c.windows[0].Place)
		delete(x.handed, c.windows[0].Place)
	}
	return ""
}

// hold does a call of both, and holds one's answer against the other's.
func (x *pair) hold(c act) (api.Errno, string) {
	was := look(x.group, x.plain.trails)
	got := do(x.group, c)
	if want := x.plain.do(c); got != want {
		return got.err, fmt.Sprint("it answered ", got, int(got.err), ", want ", want, int(want.err))
	}
	return got.err, x.broken(was, c, got)
}

// histories does each history of so many calls, behind the first ones.
func histories(t *testing.T, length int, first, acts []act, lists ...[]group.Window) {
	t.Helper()
	count := 1
	for range length {
		count *= len(acts)
	}
	ids := []int{-1, 0, 1, 2, 3}
	for history := range count { // its digits are its calls
		x, past := both(), slices.Clone(first)
		for rest := history; len(past) < len(first)+length; rest /= len(acts) {
			past = append(past, acts[rest%len(acts)])
		}
		for _, c := range past {
			if _, wrong := x.hold(c); wrong != "" {
				t.Fatalf("%v: at %v: %s", past, c, wrong)
			}
		}
		if d := x.plain.differs(x.group, ids, lists...); d != "" { // what is behind fewer calls, another history ends with
			t.Fatalf("%v: %s", past, d)
		}
	}
}

// 19.1 to 19.7, P1, P2: each history of five calls of a new group of up to two members and three places answers and leaves what the document's words say.
func TestHistories(t *testing.T) {
	a, b, c := win(0, 0, 3), win(1, 1, 4), win(2, 2, 3)
	histories(t, 5, nil, []act{
		join(1), join(2), leave(1), ack(1), spread(a, b), spread(b, c), take(1, a, b, c), take(2, c, b, a),
		commit(1, 0, a, 1), commit(2, 0, b, 2), seekTo(1, 0, b, 3),
	}, []group.Window{a, b, c}, []group.Window{win(2, 0, 9), win(1, 3, 9), win(0, 2, 9)})
}

// 19.1 to 19.7, P1, P2: each history of four calls of a group of two members that have four places, of which some were delivered something, and some of that is committed.
func TestHistoriesOfTwo(t *testing.T) {
	w := wins(4, 0, 4)
	histories(t, 4, []act{
		join(1), join(2), spread(w...), take(1, w...), take(1, w...), take(1, w...), take(2, w...), take(2, w...), commit(1, 0, w[0], 1),
	}, []act{
		join(3), leave(1), leave(2), leave(3), ack(1), ack(2), spread(w[:3]...), spread(w[3], w[0]),
		take(1, win(1, 2, 4), win(0, 0, 4)), take(2, w...), take(3, w...), commit(1, 0, w[1], 1), commit(2, 0, w[2], 1), commit(1, -1, w[1], 1),
		seekTo(2, 0, w[3], 3),
	}, w, wins(4, 2, 3))
}

// 19.1 to 19.7, P1, P2: each history of five calls of a group that is changing: two must acknowledge what a third one is to get.
func TestHistoriesOfAChange(t *testing.T) {
	w := wins(6, 0, 4)
	begun := []act{join(1), join(2), spread(w...)}
	for range 6 {
		begun = append(begun, take(1, w...), take(2, w...))
	}
	histories(t, 5, append(begun, commit(1, 0, w[2], 1), join(3)), []act{
		ack(1), ack(2), leave(3), join(3), leave(1), take(1, w[2], w[0]), commit(1, 0, w[2], 2), take(3, w...), spread(w[1:]...),
	}, w)
}

// 19.1, 19.3, P1, P2: each history of three calls of a group with seven and with eight members, that has as many places as there are members, and one more.
func TestHistoriesOfMany(t *testing.T) {
	first := []act{spread(wins(9, 0, 3)...)}
	for id := range 7 {
		first = append(first, join(2*id))
		for other := range id {
			first = append(first, ack(2*other))
		}
	}
	acts := []act{
		join(1), join(14), join(15), join(16), join(0), leave(0), leave(1), leave(12), leave(-1), ack(0), ack(2), ack(12),
		take(0, wins(9, 0, 3)...), take(12, wins(9, 0, 3)...), spread(wins(8, 0, 3)...),
	}
	histories(t, 3, first, acts, wins(9, 0, 3))
	histories(t, 3, append(first, join(5)), acts, wins(9, 0, 3))
}

// rule goes on from seed to seed, the same way each time.
type rule struct{ seed uint32 }

// below is the rule's next number from 0 on, less than n.
func (r *rule) below(n int) int {
	r.seed = r.seed*1664525 + 1013904223
	return int(r.seed>>8) % n
}

// shuffled are the windows in some order.
func (r *rule) shuffled(windows []group.Window) []group.Window {
	windows = slices.Clone(windows)
	for i := len(windows) - 1; i > 0; i-- {
		j := r.below(i + 1)
		windows[i], windows[j] = windows[j], windows[i]
	}
	return windows
}

// goesOn lets tails rise, and heads behind them, so that now and then something is lost.
func (r *rule) goesOn(world []group.Window) {
	for i := range world {
		w := &world[i]
		w.Tail = min(w.Tail+r.below(8)/6, api.MaxOffset)
		if w.Tail-w.Head > 5+r.below(30) {
			w.Head += r.below(4)
		}
	}
}

// told are windows of the world as one tells of them: in some order, some not, some twice, some that are none.
func (r *rule) told(world []group.Window) []group.Window {
	windows := r.shuffled(world)
	switch r.below(8) {
	case 0:
		windows = windows[:r.below(len(windows)+1)]
	case 1:
		windows = append(windows[:r.below(len(windows))], r.shuffled(world)...)
		w := &windows[r.below(len(windows))]
		w.Head = w.Tail - r.below(3)
	case 2:
		windows[r.below(len(windows))].Tail = []int{-1, 0, api.MaxOffset + 1, api.MaxOffset}[r.below(4)]
	}
	return windows
}

// marked is a commit or a seek in a place, mostly one's own.
func (r *rule) marked(x *plain, world []group.Window) act {
	w := world[r.below(len(world))]
	id := who(x.owner, w.Place)
	if r.below(8) == 0 {
		id = r.below(18) - 1
	}
	gen := max(0, r.below(12)-10) * (1 - 2*r.below(2))
	trail := x.trails[w.Place]
	if trail == nil {
		return commit(id, gen, w, r.below(4))
	}
	to := trail.committed() + r.below(trail.next-trail.committed()+3) - 1
	switch {
	case r.below(20) == 0:
		to = []int{-1, 0, w.Head, w.Tail, w.Tail + 1, api.MaxOffset + 1}[r.below(6)]
	case r.below(3) > 0:
		to = trail.next
	}
	if r.below(2) > 0 {
		return commit(id, gen, w, to)
	}
	if r.below(2) == 0 {
		to = w.Head + r.below(w.Tail-w.Head+2)
	}
	if r.below(12) == 0 {
		w.Head, w.Tail = w.Tail, w.Head
	}
	return seekTo(id, gen, w, to)
}

// chosen is a group's next call: many are delivered something, some commit, fewer seek, come or go, and some of each are to be refused.
func (r *rule) chosen(x *plain, world []group.Window) act {
	id := r.below(18) - 1
	switch n := r.below(40); {
	case n < 20:
		if len(x.members) > 0 && n > 0 {
			id = x.members[r.below(len(x.members))]
		}
		return take(id, r.told(world)...)
	case n < 31:
		return r.marked(x, world)
	case n < 33:
		return join(id)
	case n == 33:
		return leave(id)
	case n < 37:
		if waits := x.waits(); len(waits) > 0 && n > 34 {
			id = waits[r.below(len(waits))]
		}
		return ack(id)
	case n == 37:
		return spread(r.told(world)...)
	}
	if r.below(18) == 0 {
		return spread(wins(257, 0, 9)...)
	}
	return spread(r.shuffled(world)[:r.below(len(world)+1)]...)
}

// 19.1 to 19.7, P1, P2: long histories from a fixed rule, of three groups by turns, with few places and many. Each error is met.
func TestLongHistories(t *testing.T) {
	r, met := &rule{seed: 19}, map[api.Errno]int{}
	ids := slices.Concat([]int{-1, 16}, sessions())
	for _, n := range []int{1, 4, 11, 20} {
		world, list := wins(n, 3, 3), []*pair{both(), both(), both()}
		for range 6000 {
			at := r.below(len(list))
			x := list[at]
			r.goesOn(world)
			c := r.chosen(x.plain, world)
			e, wrong := x.hold(c)
			if wrong == "" {
				wrong = x.plain.differs(x.group, ids, world, r.told(world), wins(n, 0, api.MaxOffset))
			}
			if wrong != "" {
				t.Fatalf("%d places, group %d of the three: %v: %s", n, at, c, wrong)
			}
			met[e]++
		}
	}
	for _, e := range []api.Errno{api.OK, api.ErrArg, api.ErrLong, api.ErrFull, api.ErrNone, api.ErrSame, api.ErrWindow, api.ErrMember, api.ErrShare, api.ErrFence} {
		if met[e] < 20 {
			t.Errorf("only %d calls met %d: %v", met[e], int(e), met)
		}
	}
}
