package job

import (
	"math"
	"slices"
	"strings"
	"testing"

	"stint/api"
)

const (
	latest  = api.MaxTime
	longest = api.MaxEst
	never   = api.Never
	lastId  = 1073741824 // 2^30
)

// states are all states, live ones first.
func states() []int {
	return []int{api.JobHeld, api.JobQueued, api.JobRunning, api.JobDone, api.JobKilled, api.JobCancelled}
}

// events are all that becomes of jobs.
func events() []int {
	return []int{api.EvHold, api.EvFree, api.EvStart, api.EvEnd, api.EvKill, api.EvCancel}
}

// noEvents are numbers by which nothing becomes of a job.
func noEvents() []int { return []int{math.MinInt, -1, 0, 7, 8, math.MaxInt} }

// noStates are numbers of no state.
func noStates() []int { return []int{math.MinInt, -2, -1, 6, 7, 256, math.MaxInt} }

// ends are ints at which something turns: around 0, MaxTime and Never, the least and the greatest int.
func ends() []int {
	return []int{math.MinInt, math.MinInt + 1, -never, -longest, -1, 0, 1, 3, longest, latest - longest, latest - 1, latest, latest + 1, latest + longest, latest + longest + 1, never, never + 1, math.MaxInt - 1, math.MaxInt}
}

// of is ann's job of a state, which came at sub, runs 9 times at most, and has these times.
func of(state, sub, start, end int) api.Job {
	return api.Job{Id: 1, User: "ann", Width: 2, Est: 9, Prio: 3, Sub: sub, State: state, Start: start, End: end}
}

// some is a job of a state, which came at 2; what started did so at 5.
func some(state int) api.Job {
	switch state {
	case api.JobRunning:
		return of(state, 2, 5, 0)
	case api.JobDone:
		return of(state, 2, 5, 9)
	case api.JobKilled:
		return of(state, 2, 5, 14)
	}
	return of(state, 2, 0, 0)
}

// small are all jobs that came at 0 to 2, run 1 to 3 times at most, of all states and some that are none, and of all times around these; most of them may not be.
func small() []api.Job {
	var l []api.Job
	for state := -1; state <= 6; state++ {
		for sub := range 3 {
			for est := 1; est <= 3; est++ {
				for start := -1; start <= 4; start++ {
					for end := -1; end <= 8; end++ {
						j := of(state, sub, start, end)
						j.Est = est
						l = append(l, j)
					}
				}
			}
		}
	}
	return l
}

// late are jobs around MaxTime, and of ends that are far off; most of them may not be.
func late() []api.Job {
	var l []api.Job
	for _, state := range states() {
		for _, sub := range []int{0, latest - 1, latest} {
			for _, est := range []int{1, 2, longest} {
				for _, start := range ends() {
					for _, end := range ends() {
						j := of(state, sub, start, end)
						j.Est = est
						l = append(l, j)
					}
				}
			}
		}
	}
	return l
}

// meantName is a name by definition.
func meantName(s string) bool {
	return 1 <= len(s) && len(s) <= 16 && strings.Trim(s, "abcdefghijklmnopqrstuvwxyz") == "" && !strings.ContainsFunc(s, func(r rune) bool { return !strings.ContainsRune("abcdefghijklmnopqrstuvwxyz", r) })
}

// meantMay tells by definition whether a job may be.
func meantMay(j api.Job) bool {
	if j.Id < 1 || j.Id > lastId || !meantName(j.User) || j.Width < 1 || j.Width > 256 || j.Est < 1 || j.Est > longest || j.Prio < 0 || j.Prio > 1000 || j.Sub < 0 || j.Sub > latest {
		return false
	}
	zero := j.Start == 0 && j.End == 0
	started := j.Sub <= j.Start && j.Start <= latest
	// Start is one that may be wherever what it is added to counts.
	over := started && j.Start <= j.End && j.End <= j.Start+j.Est
	may := map[int]bool{0: zero, 1: zero, 2: started && j.End == 0, 3: over, 4: over && j.End == j.Start+j.Est, 5: zero || over}
	return may[j.State]
}

// meantTurn tells by definition what becomes of a job.
func meantTurn(j api.Job, ev, t int) (api.Job, api.Errno) {
	if !meantMay(j) || !slices.Contains(events(), ev) || t < j.Sub || t > latest {
		return api.Job{}, api.ErrArg
	}
	then, ok := map[[2]int]int{
		{1, api.EvHold}: 0, {0, api.EvFree}: 1, {1, api.EvStart}: 2, {2, api.EvEnd}: 3, {2, api.EvKill}: 4,
		{0, api.EvCancel}: 5, {1, api.EvCancel}: 5, {2, api.EvCancel}: 5,
	}[[2]int{j.State, ev}]
	if !ok {
		return api.Job{}, api.ErrState
	}
	if then == 2 {
		j.Start = t
	}
	if j.State == 2 {
		j.End = t
	}
	j.State = then
	if !meantMay(j) {
		return api.Job{}, api.ErrArg
	}
	return j, api.OK
}

// meantRan tells by definition for how many times a job ran: it goes through all of them, so they must be few.
func meantRan(j api.Job, t int) int {
	ran := 0
	for at := j.Start; at < t && meantMay(j); at++ {
		running := j.State == api.JobRunning && at < j.Start+j.Est
		over := j.State >= api.JobDone && at < j.End
		if !running && !over {
			break
		}
		ran++
	}
	return ran
}

// Jb1: 1 to 16 bytes, a to z.
func TestName(t *testing.T) {
	for n := range 40 {
		for _, r := range "amz" {
			if ok := Name(strings.Repeat(string(r), n)); ok != (1 <= n && n <= 16) {
				t.Errorf("Name(%d times %c) = %t", n, r, ok)
			}
		}
	}
	for _, s := range []string{"ann", "bob", "cy", "abcdefghijklmnop", "qrstuvwxyz"} {
		if !Name(s) {
			t.Errorf("Name(%q) = false", s)
		}
	}
	for _, s := range []string{
		"", " ", "Ann", "aNn", "anN", "ANN", "ann ", " ann", "an n", "ann\n", "ann\x00", "a1", "1", "a-b", "a_b", "a.b", "`", "{", "a`", "a{", "@", "[",
		"\u00e4", "ann\u00e4", "\u00e4nn", "a\u0301", "\uff41", "\u0430nn", "\U0001d41a", "\xff", "a\xff", "\xffa", "\x61\x80", "\ufffd",
		"abcdefghijklmnopq", strings.Repeat("\u00e4", 8), strings.Repeat("a", 15) + "\u00e4", strings.Repeat("a", 1000),
	} {
		if Name(s) {
			t.Errorf("Name(%q) = true", s)
		}
	}
}

// Jb1: each byte, at each place.
func TestNameBytes(t *testing.T) {
	for b := range 256 {
		want := 'a' <= b && b <= 'z'
		for wide := 1; wide <= 16; wide++ {
			for at := range wide {
				s := []byte(strings.Repeat("k", wide))
				s[at] = byte(b)
				if ok := Name(string(s)); ok != want {
					t.Fatalf("Name(%q) = %t", s, ok)
				}
			}
		}
	}
}

// Jb1: what a job asks for is within its bounds, whatever its state.
func TestCheckNumbers(t *testing.T) {
	for _, c := range []struct {
		what        string
		least, most int
		set         func(j *api.Job, n int)
	}{
		{"Id", 1, lastId, func(j *api.Job, n int) { j.Id = n }},
		{"Width", 1, 256, func(j *api.Job, n int) { j.Width = n }},
		{"Est", 1, longest, func(j *api.Job, n int) {
			j.Est = n
			// The job is over at its end, or at once: so its End is as it may be.
			if j.State == api.JobKilled {
				j.End = j.Start + n
			}
			if j.State == api.JobDone {
				j.End = j.Start
			}
		}},
		{"Prio", 0, 1000, func(j *api.Job, n int) { j.Prio = n }},
		{"Sub", 0, latest, func(j *api.Job, n int) {
			j.Sub = n
			// What started did so when it came, if that is later now, and is over as much later.
			if j.Start > 0 && n > j.Start {
				if j.End > 0 {
					j.End += n - j.Start
				}
				j.Start = n
			}
		}},
	} {
		for _, state := range states() {
			for _, n := range []int{math.MinInt, math.MinInt + 1, -c.most, -1, 0, 1, 2, c.least - 1, c.least, c.least + 1, c.most - 1, c.most, c.most + 1, 2 * c.most, math.MaxInt} {
				j := some(state)
				c.set(&j, n)
				want := api.ErrArg
				if c.least <= n && n <= c.most {
					want = api.OK
				}
				if e := Check(j); e != want {
					t.Errorf("%s %d: Check(%v) = %d; want %d", c.what, n, j, e, want)
				}
			}
		}
	}
}

// Jb1: a job's User is a name.
func TestCheckUser(t *testing.T) {
	for _, state := range states() {
		for _, user := range []string{"ann", "z", strings.Repeat("a", 16), "", "Ann", "a b", "\u00e4", strings.Repeat("a", 17)} {
			j := some(state)
			j.User = user
			if e := Check(j); (e == api.OK) != meantName(user) || e != api.OK && e != api.ErrArg {
				t.Errorf("Check(%v) = %d", j, e)
			}
		}
	}
	if e := Check(api.Job{}); e != api.ErrArg {
		t.Errorf("Check of the zero job: %d", e)
	}
}

// Jb1: which Start and End a job of a state may have; all of these run 9 times at most.
func TestCheckStates(t *testing.T) {
	for _, c := range []struct {
		j  api.Job
		ok bool
	}{
		{of(api.JobHeld, 5, 0, 0), true}, {of(api.JobHeld, 5, 5, 0), false}, {of(api.JobHeld, 5, 0, 5), false}, {of(api.JobHeld, 0, 1, 1), false}, {of(api.JobHeld, 5, -1, 0), false}, {of(api.JobHeld, latest, 0, 0), true},
		{of(api.JobQueued, 5, 0, 0), true}, {of(api.JobQueued, 5, 5, 0), false}, {of(api.JobQueued, 5, 0, 5), false}, {of(api.JobQueued, 0, 1, 1), false}, {of(api.JobQueued, 5, 0, -1), false}, {of(api.JobQueued, latest, 0, 0), true},
		{of(api.JobRunning, 5, 5, 0), true}, {of(api.JobRunning, 5, 4, 0), false}, {of(api.JobRunning, 5, 0, 0), false}, {of(api.JobRunning, 0, 0, 0), true}, {of(api.JobRunning, 5, 5, 5), false}, {of(api.JobRunning, 5, 5, 14), false}, {of(api.JobRunning, 5, 5, -1), false},
		{of(api.JobRunning, 5, latest, 0), true}, {of(api.JobRunning, 5, latest+1, 0), false}, {of(api.JobRunning, latest, latest, 0), true}, {of(api.JobRunning, latest, latest-1, 0), false}, {of(api.JobRunning, 5, math.MaxInt, 0), false}, {of(api.JobRunning, 5, math.MinInt, 0), false},
		{of(api.JobDone, 5, 5, 5), true}, {of(api.JobDone, 5, 5, 14), true}, {of(api.JobDone, 5, 5, 15), false}, {of(api.JobDone, 5, 6, 15), true}, {of(api.JobDone, 5, 6, 5), false}, {of(api.JobDone, 5, 4, 9), false}, {of(api.JobDone, 5, 0, 0), false}, {of(api.JobDone, 0, 0, 0), true}, {of(api.JobDone, 5, 5, 0), false},
		{of(api.JobDone, 5, latest, latest), true}, {of(api.JobDone, 5, latest, latest+9), true}, {of(api.JobDone, 5, latest, latest+10), false}, {of(api.JobDone, 5, latest+1, latest+1), false}, {of(api.JobDone, 5, 5, math.MaxInt), false}, {of(api.JobDone, 5, math.MinInt, math.MinInt+9), false}, {of(api.JobDone, 5, math.MaxInt, math.MinInt+8), false},
		{of(api.JobKilled, 5, 5, 14), true}, {of(api.JobKilled, 5, 5, 13), false}, {of(api.JobKilled, 5, 5, 15), false}, {of(api.JobKilled, 5, 5, 5), false}, {of(api.JobKilled, 5, 4, 13), false}, {of(api.JobKilled, 0, 0, 9), true}, {of(api.JobKilled, 0, 0, 0), false}, {of(api.JobKilled, 5, 0, 0), false},
		{of(api.JobKilled, 5, latest, latest+9), true}, {of(api.JobKilled, 5, latest+1, latest+10), false}, {of(api.JobKilled, 5, latest, latest), false}, {of(api.JobKilled, 5, math.MaxInt, math.MinInt+8), false}, {of(api.JobKilled, 5, -9, 0), false},
		{of(api.JobCancelled, 5, 0, 0), true}, {of(api.JobCancelled, 0, 0, 0), true}, {of(api.JobCancelled, 5, 5, 5), true}, {of(api.JobCancelled, 5, 5, 14), true}, {of(api.JobCancelled, 5, 5, 15), false}, {of(api.JobCancelled, 5, 5, 0), false}, {of(api.JobCancelled, 5, 5, 4), false}, {of(api.JobCancelled, 5, 0, 5), false}, {of(api.JobCancelled, 5, 4, 5), false},
		{of(api.JobCancelled, 0, 0, 9), true}, {of(api.JobCancelled, 0, 0, 10), false}, {of(api.JobCancelled, 5, latest, latest+9), true}, {of(api.JobCancelled, 5, latest+1, latest+1), false}, {of(api.JobCancelled, latest, 0, 0), true},
	} {
		want := api.ErrArg
		if c.ok {
			want = api.OK
		}
		if e := Check(c.j); e != want {
			t.Errorf("Check(%v) = %d; want %d", c.j, e, want)
		}
	}
	for _, state := range noStates() {
		for _, j := range []api.Job{of(state, 5, 0, 0), of(state, 5, 5, 0), of(state, 5, 5, 14), of(state, 0, 0, 0)} {
			if e := Check(j); e != api.ErrArg {
				t.Errorf("Check(%v) = %d", j, e)
			}
		}
	}
}

// Jb1: all jobs of small times, and around MaxTime.
func TestCheckByDefinition(t *testing.T) {
	for _, j := range append(small(), late()...) {
		want := api.ErrArg
		if meantMay(j) {
			want = api.OK
		}
		if e := Check(j); e != want {
			t.Fatalf("Check(%v) = %d; meant: %d", j, e, want)
		}
	}
}

// Jb1: what becomes of a job that came at 2, started at 5, and runs 9 times at most.
func TestTurn(t *testing.T) {
	held, queued, running := some(api.JobHeld), some(api.JobQueued), some(api.JobRunning)
	for _, c := range []struct {
		j    api.Job
		ev   int
		t    int
		want api.Job
	}{
		{queued, api.EvHold, 2, held}, {queued, api.EvHold, latest, held}, {held, api.EvFree, 2, queued}, {held, api.EvFree, latest, queued},
		{queued, api.EvStart, 2, of(api.JobRunning, 2, 2, 0)}, {queued, api.EvStart, 5, running}, {queued, api.EvStart, latest, of(api.JobRunning, 2, latest, 0)}, {of(api.JobQueued, 0, 0, 0), api.EvStart, 0, of(api.JobRunning, 0, 0, 0)},
		{running, api.EvEnd, 5, of(api.JobDone, 2, 5, 5)}, {running, api.EvEnd, 9, of(api.JobDone, 2, 5, 9)}, {running, api.EvEnd, 14, of(api.JobDone, 2, 5, 14)}, {of(api.JobRunning, 2, latest, 0), api.EvEnd, latest, of(api.JobDone, 2, latest, latest)},
		{running, api.EvKill, 14, of(api.JobKilled, 2, 5, 14)}, {of(api.JobRunning, 2, latest-9, 0), api.EvKill, latest, of(api.JobKilled, 2, latest-9, latest)}, {of(api.JobRunning, 0, 0, 0), api.EvKill, 9, of(api.JobKilled, 0, 0, 9)},
		{held, api.EvCancel, 2, of(api.JobCancelled, 2, 0, 0)}, {queued, api.EvCancel, 2, of(api.JobCancelled, 2, 0, 0)}, {held, api.EvCancel, latest, of(api.JobCancelled, 2, 0, 0)}, {queued, api.EvCancel, latest, of(api.JobCancelled, 2, 0, 0)},
		{running, api.EvCancel, 5, of(api.JobCancelled, 2, 5, 5)}, {running, api.EvCancel, 8, of(api.JobCancelled, 2, 5, 8)}, {running, api.EvCancel, 14, of(api.JobCancelled, 2, 5, 14)}, {of(api.JobRunning, 0, 0, 0), api.EvCancel, 0, of(api.JobCancelled, 0, 0, 0)},
	} {
		if j, e := Turn(c.j, c.ev, c.t); j != c.want || e != api.OK {
			t.Errorf("Turn(%v, %d, %d) = %v, %d; want %v", c.j, c.ev, c.t, j, e, c.want)
		}
	}
}

// wantNoTurn holds that nothing becomes of a job, by this error.
func wantNoTurn(t *testing.T, j api.Job, ev, at int, want api.Errno) {
	t.Helper()
	if then, e := Turn(j, ev, at); then != (api.Job{}) || e != want {
		t.Errorf("Turn(%v, %d, %d) = %v, %d; want %d", j, ev, at, then, e, want)
	}
}

// Jb1: of each state the events that do not become of it.
func TestTurnOfState(t *testing.T) {
	for _, c := range []struct {
		state int
		not   []int
	}{
		{api.JobHeld, []int{api.EvHold, api.EvStart, api.EvEnd, api.EvKill}},
		{api.JobQueued, []int{api.EvFree, api.EvEnd, api.EvKill}},
		{api.JobRunning, []int{api.EvHold, api.EvFree, api.EvStart}},
		{api.JobDone, events()},
		{api.JobKilled, events()},
		{api.JobCancelled, events()},
	} {
		for _, ev := range c.not {
			for _, at := range []int{2, 3, 5, 9, 14, 15, latest} {
				wantNoTurn(t, some(c.state), ev, at, api.ErrState)
			}
			for _, at := range []int{1, 0, -1, math.MinInt, latest + 1, never, math.MaxInt} {
				wantNoTurn(t, some(c.state), ev, at, api.ErrArg)
			}
		}
	}
}

// Jb1: events that become of a job, at times at which they don't; what is named first is what is told.
func TestTurnErrors(t *testing.T) {
	running, far := some(api.JobRunning), of(api.JobRunning, 2, latest-3, 0)
	for _, at := range []int{2, 3, 4, 15, 16, latest} {
		wantNoTurn(t, running, api.EvEnd, at, api.ErrArg)
		wantNoTurn(t, running, api.EvCancel, at, api.ErrArg)
	}
	for _, at := range []int{2, 4, 5, 9, 13, 15, latest} {
		wantNoTurn(t, running, api.EvKill, at, api.ErrArg)
	}
	// Its end is above MaxTime: no time that may be is that.
	for _, at := range []int{latest - 3, latest, latest + 6} {
		wantNoTurn(t, far, api.EvKill, at, api.ErrArg)
	}
	for _, state := range states() {
		for _, ev := range noEvents() {
			wantNoTurn(t, some(state), ev, 5, api.ErrArg)
		}
		wrong := some(state)
		wrong.Width = 0
		for _, ev := range append(events(), noEvents()...) {
			wantNoTurn(t, wrong, ev, 5, api.ErrArg)
			wantNoTurn(t, api.Job{}, ev, 5, api.ErrArg)
			for _, none := range noStates() {
				wantNoTurn(t, of(none, 2, 0, 0), ev, 5, api.ErrArg)
			}
			for _, at := range []int{math.MinInt, -1, 0, 1, latest + 1, math.MaxInt} {
				wantNoTurn(t, some(state), ev, at, api.ErrArg)
			}
		}
	}
}

// checkTurn holds what becomes of a job against the definition.
func checkTurn(t *testing.T, j api.Job, ev, at int) {
	t.Helper()
	then, e := Turn(j, ev, at)
	want, f := meantTurn(j, ev, at)
	if then != want || e != f {
		t.Fatalf("Turn(%v, %d, %d) = %v, %d; meant: %v, %d", j, ev, at, then, e, want, f)
	}
	if e != api.OK {
		return
	}
	if Check(then) != api.OK || !Live(j) {
		t.Fatalf("Turn(%v, %d, %d) = %v", j, ev, at, then)
	}
	then.State, then.Start, then.End = j.State, j.Start, j.End
	if then != j {
		t.Fatalf("Turn(%v, %d, %d) has turned what is asked for: %v", j, ev, at, then)
	}
}

// Jb1: all jobs of small times, and around MaxTime, by all events at all times there.
func TestTurnByDefinition(t *testing.T) {
	all := append(events(), noEvents()...)
	for _, j := range small() {
		for _, ev := range all {
			for at := -2; at <= 9; at++ {
				checkTurn(t, j, ev, at)
			}
		}
	}
	for _, j := range late() {
		for _, ev := range events() {
			for _, at := range append(ends(), j.Start, j.End, j.Start+j.Est) {
				checkTurn(t, j, ev, at)
			}
		}
	}
}

// Jb1: held, queued and running ones are live, if they may be.
func TestLive(t *testing.T) {
	for _, state := range states() {
		want := state == api.JobHeld || state == api.JobQueued || state == api.JobRunning
		if ok := Live(some(state)); ok != want {
			t.Errorf("Live(%v) = %t", some(state), ok)
		}
		for _, turn := range []func(j *api.Job){
			func(j *api.Job) { j.Id = 0 }, func(j *api.Job) { j.User = "" }, func(j *api.Job) { j.Width = 257 }, func(j *api.Job) { j.Est = 0 },
			func(j *api.Job) { j.Prio = -1 }, func(j *api.Job) { j.Sub = -1 }, func(j *api.Job) { j.Start = -1 }, func(j *api.Job) { j.End = -1 },
		} {
			j := some(state)
			turn(&j)
			if Live(j) {
				t.Errorf("Live(%v), which may not be", j)
			}
		}
	}
	for _, state := range noStates() {
		if Live(of(state, 2, 0, 0)) || Live(of(state, 2, 5, 0)) {
			t.Errorf("Live of state %d", state)
		}
	}
	if Live(api.Job{}) {
		t.Error("Live of the zero job")
	}
	for _, j := range append(small(), late()...) {
		if ok := Live(j); ok != (meantMay(j) && j.State <= api.JobRunning) {
			t.Fatalf("Live(%v) = %t", j, ok)
		}
	}
}

// Jb1: each state's word, and none of what is no state.
func TestWord(t *testing.T) {
	for state, want := range []string{"held", "queued", "running", "done", "killed", "cancelled"} {
		if s := Word(state); s != want {
			t.Errorf("Word(%d) = %q; want %q", state, s, want)
		}
	}
	if Word(api.JobHeld) != "held" || Word(api.JobQueued) != "queued" || Word(api.JobRunning) != "running" || Word(api.JobDone) != "done" || Word(api.JobKilled) != "killed" || Word(api.JobCancelled) != "cancelled" {
		t.Error("a state's word")
	}
	for _, state := range noStates() {
		if s := Word(state); s != "" {
			t.Errorf("Word(%d) = %q", state, s)
		}
	}
}

// Jb2: up to its End, or its Est, and no time that is not ahead of t.
func TestRan(t *testing.T) {
	running, done, killed := some(api.JobRunning), some(api.JobDone), some(api.JobKilled)
	stopped, gone := of(api.JobCancelled, 2, 5, 8), some(api.JobCancelled)
	whole := of(api.JobKilled, latest, latest, latest+longest)
	whole.Est = longest
	going := of(api.JobRunning, latest, latest, 0)
	going.Est = longest
	for _, c := range []struct {
		j       api.Job
		t, want int
	}{
		{running, 7, 2}, {running, 5, 0}, {running, 4, 0}, {running, 6, 1}, {running, 13, 8}, {running, 14, 9}, {running, 15, 9}, {running, latest, 9}, {running, math.MaxInt, 9}, {running, 0, 0}, {running, -1, 0}, {running, math.MinInt, 0},
		{done, 9, 4}, {done, 10, 4}, {done, 14, 4}, {done, latest, 4}, {done, math.MaxInt, 4}, {done, 8, 3}, {done, 6, 1}, {done, 5, 0}, {done, 4, 0}, {done, 0, 0}, {done, math.MinInt, 0},
		{killed, 14, 9}, {killed, 15, 9}, {killed, 13, 8}, {killed, 6, 1}, {killed, 5, 0}, {killed, -5, 0}, {killed, math.MaxInt, 9},
		{stopped, 8, 3}, {stopped, 9, 3}, {stopped, 7, 2}, {stopped, 5, 0}, {stopped, 2, 0}, {stopped, math.MaxInt, 3}, {of(api.JobCancelled, 2, 5, 5), 9, 0}, {of(api.JobDone, 2, 5, 5), 9, 0}, {of(api.JobCancelled, 0, 0, 3), 9, 3},
		{gone, 1, 0}, {gone, 9, 0}, {gone, math.MaxInt, 0}, {of(api.JobCancelled, 0, 0, 0), 9, 0}, {some(api.JobHeld), 9, 0}, {some(api.JobQueued), 9, 0}, {of(api.JobHeld, 0, 0, 0), math.MaxInt, 0}, {of(api.JobQueued, 0, 0, 0), 1, 0},
		{of(api.JobRunning, 0, 0, 0), 0, 0}, {of(api.JobRunning, 0, 0, 0), 1, 1}, {of(api.JobRunning, 0, 0, 0), 99, 9}, {of(api.JobRunning, 0, 0, 0), -1, 0},
		{whole, latest, 0}, {whole, latest + 1, 1}, {whole, latest + longest, longest}, {whole, math.MaxInt, longest}, {whole, math.MinInt, 0}, {going, latest, 0}, {going, latest + 1, 1}, {going, never, longest}, {going, math.MaxInt, longest}, {going, math.MinInt, 0},
	} {
		if n := Ran(c.j, c.t); n != c.want {
			t.Errorf("Ran(%v, %d) = %d; want %d", c.j, c.t, n, c.want)
		}
	}
}

// Jb2: what may not be did not run.
func TestRanOfNone(t *testing.T) {
	none := []api.Job{{}, of(api.JobDone, 5, 4, 9), of(api.JobDone, 2, 5, 15), of(api.JobKilled, 2, 5, 13), of(api.JobRunning, 2, 5, 9), of(api.JobQueued, 2, 5, 9), of(api.JobHeld, 2, 5, 9), of(api.JobCancelled, 2, 5, 4), of(-1, 2, 5, 9), of(6, 2, 5, 9)}
	for _, state := range states() {
		j := some(state)
		j.User = "Ann"
		none = append(none, j)
	}
	for _, j := range none {
		for _, at := range append(ends(), 7, 9, 20) {
			if n := Ran(j, at); n != 0 {
				t.Errorf("Ran(%v, %d) = %d", j, at, n)
			}
		}
	}
}

// Jb2: all jobs of small times, counted time by time.
func TestRanByDefinition(t *testing.T) {
	for _, j := range small() {
		for at := -2; at <= 10; at++ {
			if n, want := Ran(j, at), meantRan(j, at); n != want {
				t.Fatalf("Ran(%v, %d) = %d; meant: %d", j, at, n, want)
			}
		}
	}
}

// Jb3: nothing becomes of what is done, killed or cancelled, whenever it is.
func TestOverStaysSo(t *testing.T) {
	for _, j := range append(small(), late()...) {
		if j.State < api.JobDone || Check(j) != api.OK {
			continue
		}
		for _, ev := range append(events(), noEvents()...) {
			for _, at := range append(ends(), 2, 4, 5, j.Start, j.End) {
				if then, e := Turn(j, ev, at); then != (api.Job{}) || e == api.OK {
					t.Fatalf("Turn(%v, %d, %d) = %v, %d", j, ev, at, then, e)
				}
			}
		}
	}
}

// Jb1, Jb3: from each live job on, whatever comes, state by state; it is over at last, and stays so.
func TestLives(t *testing.T) {
	for _, first := range []int{api.JobHeld, api.JobQueued} {
		j := of(first, 2, 0, 0)
		for n, c := range []struct{ ev, t, state int }{
			{api.EvHold, 2, api.JobHeld}, {api.EvFree, 3, api.JobQueued}, {api.EvHold, 3, api.JobHeld}, {api.EvStart, 4, api.JobHeld}, {api.EvFree, 4, api.JobQueued}, {api.EvKill, 9, api.JobQueued},
			{api.EvStart, 5, api.JobRunning}, {api.EvStart, 5, api.JobRunning}, {api.EvHold, 6, api.JobRunning}, {api.EvKill, 13, api.JobRunning}, {api.EvEnd, 15, api.JobRunning}, {api.EvKill, 14, api.JobKilled},
			{api.EvCancel, 14, api.JobKilled}, {api.EvFree, 14, api.JobKilled}, {api.EvStart, 20, api.JobKilled}, {api.EvEnd, 14, api.JobKilled},
		} {
			if then, e := Turn(j, c.ev, c.t); e == api.OK {
				j = then
			}
			if j.State != c.state {
				t.Fatalf("behind %d, from %s on: %v; want %s", n, Word(first), j, Word(c.state))
			}
		}
		if j != some(api.JobKilled) {
			t.Errorf("from %s on: %v", Word(first), j)
		}
	}
}

// Jb1 to Jb3 of any jobs: go test -run xxx -fuzz=FuzzJobs ./job.
func FuzzJobs(f *testing.F) {
	f.Add(1, "ann", 2, 9, 3, 2, 1, 0, 0, api.EvStart, 5)
	f.Add(lastId, "z", 256, longest, 1000, latest, 2, latest, 0, api.EvCancel, latest)
	f.Add(1, "ann", 2, 9, 3, 2, 4, 5, 14, api.EvEnd, 9)
	f.Add(1, "Ann", 2, 9, 3, 2, 5, 5, math.MinInt, 7, math.MaxInt)
	f.Fuzz(func(t *testing.T, id int, user string, width, est, prio, sub, state, start, end, ev, at int) {
		if Name(user) != meantName(user) {
			t.Fatalf("Name(%q)", user)
		}
		j := api.Job{Id: id, User: user, Width: width, Est: est, Prio: prio, Sub: sub, State: state, Start: start, End: end}
		may := meantMay(j)
		if e := Check(j); (e == api.OK) != may || e != api.OK && e != api.ErrArg {
			t.Fatalf("Check(%v) = %d", j, e)
		}
		if Live(j) != (may && state <= api.JobRunning) {
			t.Fatalf("Live(%v)", j)
		}
		checkTurn(t, j, ev, at)
		if est > 1000 {
			return
		}
		if n := Ran(j, at); n != meantRan(j, at) {
			t.Fatalf("Ran(%v, %d) = %d", j, at, n)
		}
	})
}
