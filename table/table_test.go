package table

import (
	"math"
	"slices"
	"testing"

	"stint/api"
	"stint/job"
)

const (
	latest = api.MaxTime
	lastId = 1 << 30
)

// ask is ann's job of an Id that is queued, and came at 2.
func ask(id int) api.Job {
	return api.Job{Id: id, User: "ann", Width: 2, Est: 9, Prio: 3, Sub: 2, State: api.JobQueued}
}

// some is ann's job of an Id and a state, which came at 2; what started did so at 5.
func some(id, state int) api.Job {
	j := ask(id)
	j.State = state
	switch state {
	case api.JobRunning:
		j.Start = 5
	case api.JobDone:
		j.Start, j.End = 5, 9
	case api.JobKilled:
		j.Start, j.End = 5, 14
	}
	return j
}

// stopped is a job that was cancelled while it ran.
func stopped(id int) api.Job {
	j := some(id, api.JobDone)
	j.State = api.JobCancelled
	return j
}

// row is jobs of a state, of these Ids.
func row(state, from, to int) []api.Job {
	var l []api.Job
	for id := from; id <= to; id++ {
		l = append(l, some(id, state))
	}
	return l
}

// states are all states, live ones first; noStates are numbers of none.
func states() []int {
	return []int{api.JobHeld, api.JobQueued, api.JobRunning, api.JobDone, api.JobKilled, api.JobCancelled}
}

func noStates() []int { return []int{math.MinInt, -1, 6, 7, math.MaxInt} }

// events are all that becomes of jobs, and numbers of nothing.
func events() []int {
	return []int{api.EvHold, api.EvFree, api.EvStart, api.EvEnd, api.EvKill, api.EvCancel, 0, 7, -1, math.MinInt, math.MaxInt}
}

// times are ints at which something turns for the jobs of some.
func times() []int {
	return []int{math.MinInt, -1, 0, 1, 2, 3, 4, 5, 6, 13, 14, 15, latest - 1, latest, latest + 1, math.MaxInt}
}

// noIds are numbers that no job has; some of them are of none that may be.
func noIds() []int {
	return []int{math.MinInt, -1, 0, 77, lastId, lastId + 1, math.MaxInt}
}

// noJobs are jobs of an Id and a state that may not be, each by one thing alone, but for the zero job.
func noJobs(id, state int) []api.Job {
	l := []api.Job{{}}
	for _, turn := range []func(j *api.Job){
		func(j *api.Job) { j.Id = 0 }, func(j *api.Job) { j.Id = -id }, func(j *api.Job) { j.Id = lastId + 1 }, func(j *api.Job) { j.Id = math.MaxInt },
		func(j *api.Job) { j.User = "" }, func(j *api.Job) { j.User = "Ann" }, func(j *api.Job) { j.User = "abcdefghijklmnopq" }, func(j *api.Job) { j.User = "ann\xff" },
		func(j *api.Job) { j.Width = 0 }, func(j *api.Job) { j.Width = -2 }, func(j *api.Job) { j.Width = api.MaxProcs + 1 },
		func(j *api.Job) { j.Est = 0 }, func(j *api.Job) { j.Est = -1 }, func(j *api.Job) { j.Est = api.MaxEst + 1 },
		func(j *api.Job) { j.Prio = -1 }, func(j *api.Job) { j.Prio = api.MaxPrio + 1 }, func(j *api.Job) { j.Sub = -1 }, func(j *api.Job) { j.Sub = latest + 1 },
		func(j *api.Job) { j.State = -1 }, func(j *api.Job) { j.State = 6 }, func(j *api.Job) { j.Start = -1 }, func(j *api.Job) { j.Start = 1 }, func(j *api.Job) { j.End = -1 }, func(j *api.Job) { j.End = 15 },
	} {
		j := some(id, state)
		turn(&j)
		l = append(l, j)
	}
	return l
}

// meant is a table by definition: its jobs, as they came.
type meant struct {
	jobs []api.Job
}

// place is where the job of an Id stands; -1, if there is none.
func (m *meant) place(id int) int {
	return slices.IndexFunc(m.jobs, func(j api.Job) bool { return j.Id == id })
}

// live counts by definition those that are held, queued, or running.
func (m *meant) live() int {
	return m.count(0) + m.count(1) + m.count(2)
}

func (m *meant) count(state int) int {
	n := 0
	for _, j := range m.jobs {
		if j.State == state {
			n++
		}
	}
	return n
}

func (m *meant) add(j api.Job) api.Errno {
	if job.Check(j) != api.OK || j.State > 1 {
		return api.ErrArg
	}
	if m.place(j.Id) >= 0 {
		return api.ErrThere
	}
	if m.live() >= 100 {
		return api.ErrFull
	}
	m.jobs = append(m.jobs, j)
	return api.OK
}

func (m *meant) turn(id, ev, at int) api.Errno {
	n := m.place(id)
	if n < 0 {
		return api.ErrNone
	}
	then, e := job.Turn(m.jobs[n], ev, at)
	if e == api.OK {
		m.jobs[n] = then
	}
	return e
}

func (m *meant) edit(id, width, est, prio int) api.Errno {
	n := m.place(id)
	if n < 0 {
		return api.ErrNone
	}
	if m.jobs[n].State > 1 {
		return api.ErrState
	}
	if width < 1 || width > 256 || est < 1 || est > 1<<40 || prio < 0 || prio > 1000 {
		return api.ErrArg
	}
	m.jobs[n].Width, m.jobs[n].Est, m.jobs[n].Prio = width, est, prio
	return api.OK
}

// ordered is by definition jobs of which none is ahead of one in front of it, as told by a function.
func ordered(l []api.Job, ahead func(a, b api.Job) bool) []api.Job {
	var then []api.Job
	for _, j := range l {
		at := 0
		for at < len(then) && ahead(then[at], j) {
			at++
		}
		then = slices.Insert(then, at, j)
	}
	return then
}

func (m *meant) in(state int) []api.Job {
	var l []api.Job
	for _, j := range m.jobs {
		if j.State == state {
			l = append(l, j)
		}
	}
	return ordered(l, func(a, b api.Job) bool {
		return a.Prio > b.Prio || a.Prio == b.Prio && (a.Sub < b.Sub || a.Sub == b.Sub && a.Id < b.Id)
	})
}

func (m *meant) all() []api.Job {
	return ordered(m.jobs, func(a, b api.Job) bool { return a.Id < b.Id })
}

// same holds all that a table tells against the definition.
func same(t *testing.T, what string, x *Table, m *meant) {
	t.Helper()
	if l, want := x.All(), m.all(); !slices.Equal(l, want) {
		t.Fatalf("%s: All is %v; meant: %v", what, l, want)
	}
	if n := x.Live(); n != m.live() {
		t.Fatalf("%s: Live is %d; meant: %d", what, n, m.live())
	}
	for _, state := range append(states(), noStates()...) {
		if l, want := x.In(state), m.in(state); !slices.Equal(l, want) {
			t.Fatalf("%s: In(%d) is %v; meant: %v", what, state, l, want)
		}
		if n := x.Count(state); n != m.count(state) {
			t.Fatalf("%s: Count(%d) is %d; meant: %d", what, state, n, m.count(state))
		}
	}
	for _, j := range m.jobs {
		if got, ok := x.Get(j.Id); got != j || !ok {
			t.Fatalf("%s: Get(%d) = %v, %t; meant: %v", what, j.Id, got, ok, j)
		}
	}
	for _, id := range noIds() {
		if got, ok := x.Get(id); m.place(id) < 0 && (ok || got != api.Job{}) {
			t.Fatalf("%s: Get(%d) = %v, %t", what, id, got, ok)
		}
	}
}

// made is a table of jobs that may be so, and what is meant by it.
func made(t *testing.T, l ...api.Job) (*Table, *meant) {
	t.Helper()
	x, e := Of(l)
	if e != api.OK || x == nil {
		t.Fatalf("Of(%v): %d", l, e)
	}
	return x, &meant{slices.Clone(l)}
}

// oneOfEach are jobs of all states, rising by Id.
func oneOfEach() []api.Job {
	var l []api.Job
	for n, state := range states() {
		l = append(l, some(n+1, state))
	}
	return append(l, stopped(7))
}

// Tb1: an empty table, of which each is its own.
func TestNew(t *testing.T) {
	x, y := New(), New()
	same(t, "new", x, &meant{})
	if e := x.Add(ask(1)); e != api.OK {
		t.Errorf("Add to a new one: %d", e)
	}
	same(t, "one is added", x, &meant{[]api.Job{ask(1)}})
	same(t, "the other one", y, &meant{})
	for _, id := range append(noIds(), 1) {
		if e, f := y.Turn(id, api.EvHold, 5), y.Edit(id, 1, 1, 1); e != api.ErrNone || f != api.ErrNone {
			t.Errorf("of %d of an empty one: Turn %d, Edit %d", id, e, f)
		}
	}
}

// Tb1: just these jobs, of all states.
func TestOf(t *testing.T) {
	late := api.Job{Id: lastId, User: "zzzzzzzzzzzzzzzz", Width: api.MaxProcs, Est: api.MaxEst, Prio: api.MaxPrio, Sub: latest, State: api.JobKilled, Start: latest, End: latest + api.MaxEst}
	for _, l := range [][]api.Job{nil, {}, {ask(1)}, {ask(lastId)}, {ask(1), ask(2)}, {ask(1), ask(lastId)}, {ask(3), late}, oneOfEach(), append(oneOfEach(), late)} {
		handed := slices.Clone(l)
		x, e := Of(handed)
		if e != api.OK || x == nil {
			t.Fatalf("Of(%v): %d", l, e)
		}
		same(t, "Of", x, &meant{l})
		if !slices.Equal(handed, l) {
			t.Fatalf("Of(%v) has turned it: %v", l, handed)
		}
		for n := range handed {
			handed[n] = ask(500)
		}
		same(t, "what was handed over is turned", x, &meant{l})
	}
}

// Tb1: none of one that may not be, at whichever place, nor of Ids that do not rise.
func TestOfWrong(t *testing.T) {
	refused := func(l []api.Job, want api.Errno) {
		t.Helper()
		if x, e := Of(l); e != want || x != nil {
			t.Errorf("Of(%v) = %v, %d; want %d", l, x, e, want)
		}
	}
	for _, state := range states() {
		for _, j := range noJobs(4, state) {
			refused([]api.Job{j}, api.ErrArg)
			refused([]api.Job{j, ask(lastId)}, api.ErrArg)
			refused([]api.Job{ask(1), j}, api.ErrArg)
			refused([]api.Job{ask(1), j, ask(lastId)}, api.ErrArg)
		}
	}
	for _, l := range [][]api.Job{{ask(1), ask(1)}, {ask(2), ask(1)}, {ask(1), ask(3), ask(2)}, {ask(2), ask(3), ask(1)}, {ask(1), ask(3), ask(3)}, {ask(3), ask(3), ask(4)}, {ask(1), some(1, api.JobDone)}, {some(1, api.JobDone), some(1, api.JobCancelled)}, {ask(lastId), ask(lastId)}, {ask(lastId), ask(1)}} {
		refused(l, api.ErrArg)
	}
	if x, e := Of(make([]api.Job, 200)); e != api.ErrArg || x != nil {
		t.Errorf("Of 200 zero ones: %d", e)
	}
}

// Tb1: 100 live ones at most, of any live states, and any number of others; what may not be is named ahead of too many.
func TestOfFull(t *testing.T) {
	for _, many := range []int{99, 100, 101, 150} {
		want := api.OK
		if many > 100 {
			want = api.ErrFull
		}
		for _, state := range []int{api.JobHeld, api.JobQueued, api.JobRunning} {
			x, e := Of(row(state, 1, many))
			if e != want || (x == nil) != (want != api.OK) {
				t.Errorf("Of %d of state %d: %d; want %d", many, state, e, want)
			}
		}
		l := slices.Concat(row(api.JobDone, 1, 90), row(api.JobHeld, 91, 110), row(api.JobKilled, 111, 140), row(api.JobQueued, 141, 170), row(api.JobCancelled, 171, 350), row(api.JobRunning, 351, 300+many), []api.Job{stopped(500)})
		x, e := Of(l)
		if e != want {
			t.Errorf("Of %d live ones among others: %d; want %d", many, e, want)
		}
		if e == api.OK {
			same(t, "Of many", x, &meant{l})
		}
		last := len(l) - 1
		for _, wrong := range []api.Job{{}, ask(1), l[last-1], {Id: 500, User: "ann"}} {
			l[last] = wrong
			if x, e := Of(l); e != api.ErrArg || x != nil {
				t.Errorf("Of %d live ones, and %v: %d", many, wrong, e)
			}
		}
	}
	x, e := Of(row(api.JobCancelled, 1, 3000))
	if e != api.OK || x.Live() != 0 || x.Count(api.JobCancelled) != 3000 {
		t.Errorf("Of many that are over: %d", e)
	}
}

// Tb1: what may be, and waits, is there once.
func TestAdd(t *testing.T) {
	x, m := New(), &meant{}
	for _, c := range []struct {
		j    api.Job
		want api.Errno
	}{
		{ask(5), api.OK}, {ask(5), api.ErrThere}, {some(5, api.JobHeld), api.ErrThere}, {some(4, api.JobHeld), api.OK}, {ask(4), api.ErrThere}, {ask(6), api.OK}, {ask(1), api.OK}, {ask(lastId), api.OK}, {ask(lastId), api.ErrThere},
		{some(8, api.JobRunning), api.ErrArg}, {some(8, api.JobDone), api.ErrArg}, {some(8, api.JobKilled), api.ErrArg}, {some(8, api.JobCancelled), api.ErrArg}, {stopped(8), api.ErrArg},
		{some(5, api.JobRunning), api.ErrArg}, {some(5, api.JobCancelled), api.ErrArg}, {api.Job{Id: 5}, api.ErrArg}, {api.Job{}, api.ErrArg},
		{api.Job{Id: 9, User: "abcdefghijklmnop", Width: api.MaxProcs, Est: api.MaxEst, Prio: api.MaxPrio, Sub: latest, State: api.JobQueued}, api.OK}, {api.Job{Id: 10, User: "z", Width: 1, Est: 1, State: api.JobHeld}, api.OK},
	} {
		if e := x.Add(c.j); e != c.want {
			t.Errorf("Add(%v) = %d; want %d", c.j, e, c.want)
		}
		if c.want == api.OK {
			m.jobs = append(m.jobs, c.j)
		}
		same(t, "behind Add", x, m)
	}
	for _, state := range []int{api.JobHeld, api.JobQueued} {
		for _, id := range []int{5, 20} {
			for _, j := range noJobs(id, state) {
				if e := x.Add(j); e != api.ErrArg {
					t.Errorf("Add(%v) = %d", j, e)
				}
			}
		}
	}
	same(t, "behind what may not be", x, m)
}

// Tb1: one of its Id is there also when it is over, and when another one is meant by it.
func TestAddThere(t *testing.T) {
	for _, there := range oneOfEach() {
		x, m := made(t, there)
		for _, j := range []api.Job{ask(there.Id), some(there.Id, api.JobHeld), {Id: there.Id, User: "bob", Width: 1, Est: 1, State: api.JobQueued}} {
			if e := x.Add(j); e != api.ErrThere {
				t.Errorf("Add(%v) beside %v: %d", j, there, e)
			}
		}
		same(t, "behind one that is there", x, m)
	}
}

// Tb1: 100 live ones at most; others do not count, and one that is over makes room; ErrArg and ErrThere are named ahead of that.
func TestAddFull(t *testing.T) {
	l := slices.Concat(row(api.JobDone, 1, 200), row(api.JobHeld, 201, 230), row(api.JobRunning, 231, 270), row(api.JobQueued, 271, 299), []api.Job{some(300, api.JobKilled), stopped(301)})
	x, m := made(t, l...)
	for _, c := range []struct {
		what string
		got  func() api.Errno
		want api.Errno
	}{
		{"the last one", func() api.Errno { return x.Add(ask(400)) }, api.OK},
		{"one too many", func() api.Errno { return x.Add(ask(401)) }, api.ErrFull},
		{"a held one too many", func() api.Errno { return x.Add(some(401, api.JobHeld)) }, api.ErrFull},
		{"one that is there", func() api.Errno { return x.Add(ask(400)) }, api.ErrThere},
		{"one that is over", func() api.Errno { return x.Add(ask(200)) }, api.ErrThere},
		{"one that may not be", func() api.Errno { return x.Add(api.Job{Id: 401}) }, api.ErrArg},
		{"one that runs", func() api.Errno { return x.Add(some(401, api.JobRunning)) }, api.ErrArg},
		{"hold", func() api.Errno { return x.Turn(271, api.EvHold, 9) }, api.OK},
		{"start", func() api.Errno { return x.Turn(272, api.EvStart, 9) }, api.OK},
		{"still too many", func() api.Errno { return x.Add(ask(401)) }, api.ErrFull},
		{"a wrong end", func() api.Errno { return x.Turn(231, api.EvKill, 9) }, api.ErrArg},
		{"still full", func() api.Errno { return x.Add(ask(401)) }, api.ErrFull},
		{"an end", func() api.Errno { return x.Turn(231, api.EvEnd, 9) }, api.OK},
		{"room", func() api.Errno { return x.Add(ask(401)) }, api.OK},
		{"full again", func() api.Errno { return x.Add(ask(402)) }, api.ErrFull},
		{"one is cancelled", func() api.Errno { return x.Turn(401, api.EvCancel, 9) }, api.OK},
		{"room of that", func() api.Errno { return x.Add(some(402, api.JobHeld)) }, api.OK},
		{"no room any more", func() api.Errno { return x.Add(ask(403)) }, api.ErrFull},
	} {
		if e := c.got(); e != c.want {
			t.Fatalf("%s: %d; want %d", c.what, e, c.want)
		}
	}
	m.add(ask(400))
	m.turn(271, api.EvHold, 9)
	m.turn(272, api.EvStart, 9)
	m.turn(231, api.EvEnd, 9)
	m.add(ask(401))
	m.turn(401, api.EvCancel, 9)
	m.add(some(402, api.JobHeld))
	same(t, "behind all of that", x, m)
}

// Tb1: the job, and true; the zero one, false.
func TestGet(t *testing.T) {
	l := oneOfEach()
	x, m := made(t, l...)
	for _, j := range l {
		if got, ok := x.Get(j.Id); got != j || !ok {
			t.Errorf("Get(%d) = %v, %t; want %v", j.Id, got, ok, j)
		}
		if got, ok := x.Get(-j.Id); ok || got != (api.Job{}) {
			t.Errorf("Get(%d) = %v, %t", -j.Id, got, ok)
		}
	}
	same(t, "Get", x, m)
}

// Tb1: a few turns by hand.
func TestTurn(t *testing.T) {
	running := some(3, api.JobRunning)
	done, killed, cut := running, running, running
	done.State, done.End = api.JobDone, 8
	killed.State, killed.End = api.JobKilled, 14
	cut.State, cut.End = api.JobCancelled, 5
	started := some(2, api.JobQueued)
	started.State, started.Start = api.JobRunning, 2
	for _, c := range []struct {
		id, ev, at int
		want       api.Job
		e          api.Errno
	}{
		{1, api.EvFree, 2, some(1, api.JobQueued), api.OK}, {1, api.EvHold, 2, some(1, api.JobHeld), api.ErrState}, {1, api.EvStart, 9, some(1, api.JobHeld), api.ErrState}, {1, api.EvCancel, 9, some(1, api.JobCancelled), api.OK},
		{2, api.EvHold, 9, some(2, api.JobHeld), api.OK}, {2, api.EvStart, 2, started, api.OK}, {2, api.EvStart, 1, some(2, api.JobQueued), api.ErrArg}, {2, api.EvStart, latest + 1, some(2, api.JobQueued), api.ErrArg}, {2, 0, 9, some(2, api.JobQueued), api.ErrArg}, {2, 7, 9, some(2, api.JobQueued), api.ErrArg}, {2, api.EvEnd, 9, some(2, api.JobQueued), api.ErrState},
		{3, api.EvEnd, 8, done, api.OK}, {3, api.EvEnd, 4, running, api.ErrArg}, {3, api.EvEnd, 15, running, api.ErrArg}, {3, api.EvKill, 14, killed, api.OK}, {3, api.EvKill, 13, running, api.ErrArg}, {3, api.EvCancel, 5, cut, api.OK}, {3, api.EvStart, 9, running, api.ErrState},
		{4, api.EvCancel, 9, some(4, api.JobDone), api.ErrState}, {5, api.EvEnd, 9, some(5, api.JobKilled), api.ErrState}, {6, api.EvFree, 9, some(6, api.JobCancelled), api.ErrState}, {6, api.EvCancel, 1, some(6, api.JobCancelled), api.ErrArg}, {7, api.EvKill, 14, stopped(7), api.ErrState},
		{8, api.EvStart, 9, api.Job{}, api.ErrNone}, {8, 0, 0, api.Job{}, api.ErrNone}, {0, api.EvStart, 9, api.Job{}, api.ErrNone}, {-1, api.EvCancel, -1, api.Job{}, api.ErrNone}, {math.MinInt, math.MinInt, math.MinInt, api.Job{}, api.ErrNone}, {math.MaxInt, math.MaxInt, math.MaxInt, api.Job{}, api.ErrNone},
	} {
		l := oneOfEach()
		x, m := made(t, l...)
		if e := x.Turn(c.id, c.ev, c.at); e != c.e {
			t.Errorf("Turn(%d, %d, %d) = %d; want %d", c.id, c.ev, c.at, e, c.e)
		}
		if n := m.place(c.id); n >= 0 {
			m.jobs[n] = c.want
		}
		same(t, "behind Turn", x, m)
	}
}

// Tb1: jobs of all states by all events at all times, as layer 7 turns them; all others stay.
func TestTurnByDefinition(t *testing.T) {
	for _, id := range append(noIds(), 1, 2, 3, 4, 5, 6, 7) {
		for _, ev := range events() {
			for _, at := range times() {
				x, m := made(t, oneOfEach()...)
				if e, want := x.Turn(id, ev, at), m.turn(id, ev, at); e != want {
					t.Fatalf("Turn(%d, %d, %d) = %d; meant: %d", id, ev, at, e, want)
				}
				same(t, "behind Turn", x, m)
			}
		}
	}
}

// Tb1: none, then its state, then what may not be; a job that may be so has all three, and nothing else is turned.
func TestEdit(t *testing.T) {
	for _, c := range []struct {
		id, width, est, prio int
		e                    api.Errno
	}{
		{1, 5, 6, 7, api.OK}, {2, 5, 6, 7, api.OK}, {1, 1, 1, 0, api.OK}, {2, api.MaxProcs, api.MaxEst, api.MaxPrio, api.OK}, {2, 2, 9, 3, api.OK},
		{3, 5, 6, 7, api.ErrState}, {4, 5, 6, 7, api.ErrState}, {5, 5, 6, 7, api.ErrState}, {6, 5, 6, 7, api.ErrState}, {7, 5, 6, 7, api.ErrState}, {3, 0, 0, -1, api.ErrState}, {6, 2, 9, 3, api.ErrState}, {3, 2, 9, 3, api.ErrState},
		{1, 0, 6, 7, api.ErrArg}, {1, 5, 0, 7, api.ErrArg}, {1, 5, 6, -1, api.ErrArg}, {2, api.MaxProcs + 1, 6, 7, api.ErrArg}, {2, 5, api.MaxEst + 1, 7, api.ErrArg}, {2, 5, 6, api.MaxPrio + 1, api.ErrArg}, {2, math.MinInt, 6, 7, api.ErrArg}, {2, 5, math.MaxInt, 7, api.ErrArg}, {2, -5, -6, -7, api.ErrArg}, {2, 0, 0, 0, api.ErrArg},
		{8, 5, 6, 7, api.ErrNone}, {8, 0, 0, -1, api.ErrNone}, {0, 5, 6, 7, api.ErrNone}, {-1, 0, 0, 0, api.ErrNone}, {math.MinInt, 5, 6, 7, api.ErrNone}, {math.MaxInt, 5, 6, 7, api.ErrNone},
	} {
		x, m := made(t, oneOfEach()...)
		if e := x.Edit(c.id, c.width, c.est, c.prio); e != c.e {
			t.Errorf("Edit(%d, %d, %d, %d) = %d; want %d", c.id, c.width, c.est, c.prio, e, c.e)
		}
		if c.e == api.OK {
			j := &m.jobs[c.id-1]
			j.Width, j.Est, j.Prio = c.width, c.est, c.prio
		}
		same(t, "behind Edit", x, m)
	}
}

// Tb1: all numbers at edges.
func TestEditByDefinition(t *testing.T) {
	for _, id := range []int{0, 1, 2, 3, 4, 5, 6, 7, 8} {
		for _, width := range []int{math.MinInt, -1, 0, 1, 255, 256, 257, math.MaxInt} {
			for _, est := range []int{math.MinInt, 0, 1, api.MaxEst, api.MaxEst + 1, math.MaxInt} {
				for _, prio := range []int{math.MinInt, -1, 0, 1000, 1001, math.MaxInt} {
					x, m := made(t, oneOfEach()...)
					if e, want := x.Edit(id, width, est, prio), m.edit(id, width, est, prio); e != want {
						t.Fatalf("Edit(%d, %d, %d, %d) = %d; meant: %d", id, width, est, prio, e, want)
					}
					if l, want := x.All(), m.all(); !slices.Equal(l, want) {
						t.Fatalf("behind Edit(%d, %d, %d, %d): %v; meant: %v", id, width, est, prio, l, want)
					}
				}
			}
		}
	}
}

// Tb2: the greater Prio first, then the lesser Sub, then the lesser Id; All rises by Id alone.
func TestIn(t *testing.T) {
	of := func(id, prio, sub, state int) api.Job {
		j := some(id, state)
		j.Prio, j.Sub = prio, sub
		return j
	}
	const q, r = api.JobQueued, api.JobRunning
	l := []api.Job{of(1, 0, 0, q), of(2, 5, 3, q), of(3, 5, 1, r), of(4, 5, 1, q), of(5, 9, 4, q), of(6, 5, 3, q), of(7, 9, 0, r), of(8, 5, 2, q), of(9, 0, 0, q), of(lastId, 5, 1, q)}
	x, m := made(t, l...)
	for state, want := range map[int][]int{q: {5, 4, lastId, 8, 2, 6, 1, 9}, r: {7, 3}, api.JobDone: nil} {
		var ids []int
		for _, j := range x.In(state) {
			ids = append(ids, j.Id)
		}
		if !slices.Equal(ids, want) {
			t.Errorf("In(%d): %v; want %v", state, ids, want)
		}
	}
	if x.Count(q) != 8 || x.Count(r) != 2 || x.Count(api.JobDone) != 0 || x.Live() != 10 {
		t.Errorf("Count: %d, %d, %d; Live: %d", x.Count(q), x.Count(r), x.Count(api.JobDone), x.Live())
	}
	same(t, "In", x, m)
}

// Tb2: held, queued and running ones are live, each of them counts, and none of the others.
func TestCounts(t *testing.T) {
	for n, state := range states() {
		x, _ := made(t, row(state, 1, n+1)...)
		live := 0
		if state <= api.JobRunning {
			live = n + 1
		}
		if x.Count(state) != n+1 || x.Live() != live || len(x.In(state)) != n+1 || len(x.All()) != n+1 {
			t.Errorf("%d of state %d: Count %d, Live %d", n+1, state, x.Count(state), x.Live())
		}
		for _, other := range append(states(), noStates()...) {
			if other != state && (x.Count(other) != 0 || len(x.In(other)) != 0) {
				t.Errorf("of state %d, asked for %d: %d", state, other, x.Count(other))
			}
		}
	}
}

// do is something that is done to a table, and by definition.
type do struct {
	what  string
	real  func(x *Table) api.Errno
	meant func(m *meant) api.Errno
}

func adding(j api.Job) do {
	return do{"Add", func(x *Table) api.Errno { return x.Add(j) }, func(m *meant) api.Errno { return m.add(j) }}
}

func turning(id, ev, at int) do {
	return do{"Turn", func(x *Table) api.Errno { return x.Turn(id, ev, at) }, func(m *meant) api.Errno { return m.turn(id, ev, at) }}
}

func editing(id, width, est, prio int) do {
	return do{"Edit", func(x *Table) api.Errno { return x.Edit(id, width, est, prio) }, func(m *meant) api.Errno { return m.edit(id, width, est, prio) }}
}

// small are things that may be done to few jobs, some of which may not.
func small() []do {
	first := ask(4)
	first.Prio = 4
	l := []do{adding(ask(1)), adding(some(2, api.JobHeld)), adding(some(2, api.JobRunning)), adding(first), adding(api.Job{Id: 3}), editing(1, 1, 5, 1), editing(2, 300, 5, 1), editing(4, 256, 9, 0)}
	for _, id := range []int{1, 2} {
		l = append(l, turning(id, api.EvHold, 6), turning(id, api.EvFree, 2), turning(id, api.EvStart, 6), turning(id, api.EvEnd, 7), turning(id, api.EvKill, 15), turning(id, api.EvCancel, 8))
	}
	return l
}

// Tb1, Tb2: all rows of four out of few things that are done, to an empty table and to full ones.
func TestRows(t *testing.T) {
	all := small()
	full := slices.Concat([]api.Job{some(1, api.JobHeld)}, row(api.JobRunning, 10, 107), []api.Job{some(200, api.JobKilled)})
	for n := range len(all) * len(all) * len(all) * len(all) {
		starts := [][]api.Job{nil, {some(2, api.JobQueued)}}
		long := n%97 == 0
		if long {
			starts = append(starts, full)
		}
		for _, start := range starts {
			x, m := made(t, start...)
			for at, rest := 0, n; at < 4; at, rest = at+1, rest/len(all) {
				d := all[rest%len(all)]
				if e, want := d.real(x), d.meant(m); e != want {
					t.Fatalf("row %d, at %d, %s: %d; meant: %d", n, at, d.what, e, want)
				}
			}
			if l, want := x.All(), m.all(); !slices.Equal(l, want) {
				t.Fatalf("behind row %d: %v; meant: %v", n, l, want)
			}
			if long || n%7 == 0 {
				same(t, "behind a row", x, m)
			}
		}
	}
}

// Tb1: it never has more than 100 live ones, whatever is done: many jobs come, and some of them end.
func TestNeverMoreLive(t *testing.T) {
	x, m := New(), &meant{}
	full := 0
	for n := range 1500 {
		j := ask(1 + n*37%1501)
		j.Prio, j.Sub, j.Est, j.State = n%4, n%3, 1+n%50, n%2
		l := []do{adding(j), turning(1+n*91%1501, api.EvFree, 3), turning(1+n*53%1501, api.EvStart, 4), turning(1+n*71%1501, api.EvEnd, 5)}
		if n > 300 {
			l = append(l, turning(1+n*29%1501, api.EvCancel, 6))
		}
		for _, d := range l {
			e, want := d.real(x), d.meant(m)
			if e != want {
				t.Fatalf("at %d, %s: %d; meant: %d", n, d.what, e, want)
			}
			if e == api.ErrFull {
				full++
			}
		}
		if live := x.Live(); live > 100 {
			t.Fatalf("at %d %d are live", n, live)
		}
		if n%100 == 0 {
			same(t, "of many", x, m)
		}
	}
	same(t, "of many", x, m)
	if full == 0 || x.Live() == x.Count(api.JobQueued) || len(x.All()) < 150 {
		t.Errorf("%d were too many, %d are live of %d", full, x.Live(), len(x.All()))
	}
	back, e := Of(x.All())
	if e != api.OK {
		t.Fatalf("Of All: %d", e)
	}
	same(t, "Of All", back, m)
}

// R4: what is told is the same each time, though a map has no order.
func TestSameEachTime(t *testing.T) {
	var l []api.Job
	for id := 1; id <= 60; id++ {
		j := some(id, api.JobQueued)
		j.Prio, j.Sub = id%3, id%2
		l = append(l, j)
	}
	x, _ := made(t, l...)
	all, in := x.All(), x.In(api.JobQueued)
	for range 50 {
		y, _ := made(t, l...)
		for _, z := range []*Table{x, y} {
			if !slices.Equal(z.All(), all) || !slices.Equal(z.In(api.JobQueued), in) {
				t.Fatalf("told otherwise: %v, %v", z.All(), z.In(api.JobQueued))
			}
		}
	}
}

// R1: of a table that neither New nor Of gave.
func TestNobody(t *testing.T) {
	var none Table
	for _, x := range []*Table{nil, {}, &none, new(Table)} {
		for _, j := range []api.Job{{}, ask(1), some(1, api.JobDone)} {
			if e := x.Add(j); e != api.ErrState {
				t.Errorf("Add: %d", e)
			}
		}
		for _, id := range append(noIds(), 1) {
			turned, edited, wrong := x.Turn(id, api.EvStart, 5), x.Edit(id, 1, 1, 1), x.Edit(id, 0, 0, 0)
			if turned != api.ErrState || edited != api.ErrState || wrong != api.ErrState {
				t.Errorf("Turn: %d, Edit: %d, %d", turned, edited, wrong)
			}
			if j, ok := x.Get(id); ok || j != (api.Job{}) {
				t.Errorf("Get: %v, %t", j, ok)
			}
		}
		for _, state := range append(states(), noStates()...) {
			if len(x.In(state)) != 0 || x.Count(state) != 0 {
				t.Errorf("In: %v, Count: %d", x.In(state), x.Count(state))
			}
		}
		if len(x.All()) != 0 || x.Live() != 0 {
			t.Errorf("All: %v, Live: %d", x.All(), x.Live())
		}
	}
}

// R3: an answer is new memory.
func TestNewMemory(t *testing.T) {
	x, m := made(t, oneOfEach()...)
	for _, l := range [][]api.Job{x.All(), x.In(api.JobQueued), x.In(api.JobCancelled)} {
		for n := range l {
			l[n] = ask(99)
		}
		_ = append(l, ask(98))
		same(t, "an answer is turned", x, m)
	}
	was := x.All()
	if e := x.Turn(2, api.EvStart, 6); e != api.OK {
		t.Fatalf("Turn: %d", e)
	}
	if !slices.Equal(was, oneOfEach()) {
		t.Errorf("an answer has turned: %v", was)
	}
}

// Tb1, Tb2 of anything that is done: go test -run xxx -fuzz=FuzzTable ./table.
func FuzzTable(f *testing.F) {
	f.Add([]byte{0, 1, 1, 1, 1, 3, 0, 2, 0, 1, 2, 6}, 3, 9, 5, 6)
	f.Add([]byte{0, 5, 1, 2, 5, 9, 1, 5, 3, 1, 5, 4}, 256, 1, 1000, latest)
	f.Add([]byte{3, 90, 2, 3, 90, 1, 0, 200, 1, 0, 201, 0}, 257, 0, -1, math.MinInt)
	f.Fuzz(func(t *testing.T, row []byte, width, est, prio, at int) {
		x, m := New(), &meant{}
		for n := 0; n+2 < len(row) && n < 120; n += 3 {
			id, more := int(row[n+1]), int(row[n+2])
			j := ask(id)
			j.Prio, j.State = more/8, more%8
			if more > 250 {
				j.Width, j.Est, j.Prio, j.Sub = width, est, prio, at
			}
			switch row[n] % 4 {
			case 0:
				check(t, adding(j), x, m)
			case 1:
				check(t, turning(id, more%8, at), x, m)
				check(t, turning(id, more%8, more/8), x, m)
			case 2:
				check(t, editing(id, width, est, more), x, m)
				check(t, editing(id, more, est, prio), x, m)
			case 3:
				for k := range id {
					check(t, adding(ask(300+k)), x, m)
					check(t, turning(300+k, more%8, 3), x, m)
				}
			}
		}
		same(t, "of anything", x, m)
	})
}

func check(t *testing.T, d do, x *Table, m *meant) {
	t.Helper()
	if e, want := d.real(x), d.meant(m); e != want {
		t.Fatalf("%s: %d; meant: %d", d.what, e, want)
	}
}
