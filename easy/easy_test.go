package easy

import (
	"math"
	"slices"
	"testing"

	"stint/api"
)

const (
	greatest = 256
	latest   = api.MaxTime
	longest  = api.MaxEst
	never    = api.Never
	mostJobs = 100
)

// noSteps are steps that may not be.
func noSteps() [][]api.Step {
	return [][]api.Step{
		nil, {}, {{At: -1, Free: 4}}, {{At: latest + 1, Free: 4}}, {{At: math.MinInt, Free: 4}}, {{At: math.MaxInt, Free: 4}}, {{At: 0, Free: -1}}, {{At: 0, Free: greatest + 1}}, {{At: 0, Free: math.MaxInt}},
		{{At: 0, Free: 4}, {At: 0, Free: 5}}, {{At: 0, Free: 4}, {At: 5, Free: 4}}, {{At: 3, Free: 4}, {At: 2, Free: 5}}, {{At: 0, Free: 4}, {At: -1, Free: 5}},
		{{At: 0, Free: 4}, {At: 5, Free: 6}, {At: never + 1, Free: 4}}, {{At: 0, Free: 4}, {At: 5, Free: 6}, {At: 9, Free: -1}}, {{At: 0, Free: 4}, {At: 5, Free: 6}, {At: 9, Free: greatest + 1}}, {{At: 0, Free: 4}, {At: 5, Free: 6}, {At: 9, Free: 6}},
	}
}

// noNows are times that are none, by whatever steps.
func noNows() []int {
	return []int{math.MinInt, -latest, -2, -1, latest + 1, never - 1, never, never + 1, math.MaxInt}
}

// noJobs are jobs that may not be by their Width or Est, or by both.
func noJobs() []api.Job {
	l := []api.Job{{}, {Id: 1}}
	for _, width := range []int{math.MinInt, -greatest, -1, 0, greatest + 1, 1 << 32, 1<<32 + 1, math.MaxInt} {
		l = append(l, api.Job{Id: 2, Width: width, Est: 1}, api.Job{Id: 3, Width: width, Est: longest}, api.Job{Id: 4, Width: width})
	}
	for _, est := range []int{math.MinInt, -longest, -1, 0, longest + 1, latest, never, math.MaxInt} {
		l = append(l, api.Job{Id: 5, Width: 1, Est: est}, api.Job{Id: 6, Width: greatest, Est: est}, api.Job{Id: 7, Est: est})
	}
	return l
}

// jobsOf are jobs of Ids from 1 on, of widths and lengths, by pairs.
func jobsOf(pairs ...[2]int) []api.Job {
	var l []api.Job
	for n, p := range pairs {
		l = append(l, api.Job{Id: n + 1, Width: p[0], Est: p[1]})
	}
	return l
}

// many is so many jobs of Ids from 1 on, of a width and a length.
func many(n, width, est int) []api.Job {
	var l []api.Job
	for id := 1; id <= n; id++ {
		l = append(l, api.Job{Id: id, Width: width, Est: est})
	}
	return l
}

// stepsOf are steps of times and how many are free, by pairs.
func stepsOf(pairs ...[2]int) []api.Step {
	var l []api.Step
	for _, p := range pairs {
		l = append(l, api.Step{At: p[0], Free: p[1]})
	}
	return l
}

// toHead is the promise of a head.
func toHead(id, at int) []api.Promise {
	return []api.Promise{{Id: id, At: at}}
}

// freeAt is by definition how many are free at a time, by steps and what is taken beside them.
func freeAt(s []api.Step, taken []api.Busy, t int) int {
	free := 0
	for _, a := range s {
		if a.At <= t {
			free = a.Free
		}
	}
	for _, b := range taken {
		if b.From <= t && t < b.To {
			free -= b.Width
		}
	}
	return free
}

// turns are the times at which something may turn, and this one, rising.
func turns(s []api.Step, taken []api.Busy, at int) []int {
	l := []int{at}
	for _, a := range s {
		l = append(l, a.At)
	}
	for _, b := range taken {
		l = append(l, b.From, b.To)
	}
	slices.Sort(l)
	return slices.Compact(l)
}

// hasRoom is by definition whether a job has room from a time on that is not ahead of the first step.
func hasRoom(s []api.Step, taken []api.Busy, at int, j api.Job) bool {
	if at > latest || j.Width < 1 || j.Width > greatest || j.Est < 1 || j.Est > longest {
		return false
	}
	for _, t := range turns(s, taken, at) {
		if at <= t && t < at+j.Est && freeAt(s, taken, t) < j.Width {
			return false
		}
	}
	return true
}

// meantShadow is by definition the least time from now on from which a job has room, and whether there is one: room that is not there ahead of a time begins where something turns.
func meantShadow(s []api.Step, taken []api.Busy, now int, j api.Job) (int, bool) {
	for _, t := range turns(s, taken, now) {
		if t >= now && hasRoom(s, taken, t, j) {
			return t, true
		}
	}
	return 0, false
}

// run is what a job takes that is laid from a time on.
func run(at int, j api.Job) api.Busy {
	return api.Busy{From: at, To: at + j.Est, Width: j.Width}
}

// meantHead is by definition the place of the first job that has a shadow, but no room beside those that are started ahead of it, and when that is; as many as there are jobs, if there is none.
func meantHead(s []api.Step, now int, jobs []api.Job) (place, at int) {
	var taken []api.Busy
	for n, j := range jobs {
		at, ok := meantShadow(s, taken, now, j)
		if ok && at != now {
			return n, at
		}
		if ok {
			taken = append(taken, run(now, j))
		}
	}
	return len(jobs), 0
}

// meantPass is Pass by definition, of what Check takes: the plan, and what it takes.
func meantPass(s []api.Step, now int, jobs []api.Job, head bool) (api.Plan, []api.Busy) {
	var plan api.Plan
	var taken []api.Busy
	place, at := meantHead(s, now, jobs)
	for n, j := range jobs {
		if n == place && head {
			plan.Promises = append(plan.Promises, api.Promise{Id: j.Id, At: at, Slack: 0})
			taken = append(taken, run(at, j))
		} else if hasRoom(s, taken, now, j) {
			plan.Starts = append(plan.Starts, j.Id)
			taken = append(taken, run(now, j))
		}
	}
	return plan, taken
}

// stepsThen is by definition the steps with what is taken.
func stepsThen(s []api.Step, taken []api.Busy) []api.Step {
	var l []api.Step
	for _, t := range turns(s, taken, s[0].At) {
		free := freeAt(s, taken, t)
		if len(l) == 0 || l[len(l)-1].Free != free {
			l = append(l, api.Step{At: t, Free: free})
		}
	}
	return l
}

// samePlan tells whether plans are alike.
func samePlan(a, b api.Plan) bool {
	return slices.Equal(a.Starts, b.Starts) && slices.Equal(a.Promises, b.Promises)
}

// samePass tells what is wrong with the passes of what Check takes, with a head and without.
func samePass(t *testing.T, s []api.Step, now int, jobs []api.Job) {
	t.Helper()
	for _, head := range []bool{true, false} {
		plan, left, e := Pass(s, now, jobs, head)
		want, taken := meantPass(s, now, jobs, head)
		if then := stepsThen(s, taken); e != api.OK || !samePlan(plan, want) || !slices.Equal(left, then) {
			t.Fatalf("Pass(%v, %d, %v, %t) = %v, %v, %d; meant: %v, %v", s, now, jobs, head, plan, left, e, want, then)
		}
	}
}

// refused tells what is wrong with a pass and a check that have an error.
func refused(t *testing.T, s []api.Step, now int, jobs []api.Job, want api.Errno) {
	t.Helper()
	if e := Check(s, now, jobs); e != want {
		t.Errorf("Check(%v, %d, %d jobs) = %d; want %d", s, now, len(jobs), e, want)
	}
	for _, head := range []bool{true, false} {
		plan, left, e := Pass(s, now, jobs, head)
		if e != want || len(plan.Starts) != 0 || len(plan.Promises) != 0 || len(left) != 0 {
			t.Errorf("Pass(%v, %d, %d jobs, %t) = %v, %v, %d; want %d", s, now, len(jobs), head, plan, left, e, want)
		}
	}
}

// some are all steps that begin at the first of these times and have others at some of the rest.
func some(times []int, frees ...int) [][]api.Step {
	var all [][]api.Step
	for _, free := range frees {
		all = append(all, []api.Step{{At: times[0], Free: free}})
	}
	for _, at := range times[1:] {
		for _, s := range slices.Clone(all) {
			for _, free := range frees {
				if free != s[len(s)-1].Free {
					all = append(all, append(slices.Clone(s), api.Step{At: at, Free: free}))
				}
			}
		}
	}
	return all
}

// mixed is numbers that follow a rule, each below what is asked.
func mixed(seed int) func(below int) int {
	x := uint64(seed)*2654435761 + 12345
	return func(below int) int {
		x ^= x << 13
		x ^= x >> 7
		x ^= x << 17
		return int(x >> 1 % uint64(below))
	}
}

// mixedSteps are some steps from a time on, of so many free at most.
func mixedSteps(next func(below int) int, first, most, widest int) []api.Step {
	var s []api.Step
	at := first
	for range most {
		if free := next(widest + 1); len(s) == 0 || s[len(s)-1].Free != free {
			s = append(s, api.Step{At: at, Free: free})
		}
		at += 1 + next(6)
	}
	return s
}

// mixedJobs are some jobs, of which some Ids are alike.
func mixedJobs(next func(below int) int, n, widest, longest int) []api.Job {
	var l []api.Job
	for range n {
		l = append(l, api.Job{Id: 1 + next(n*2), User: "ann", Width: 1 + next(widest), Est: 1 + next(longest), Prio: next(9), Sub: next(50), State: api.JobQueued})
	}
	return l
}

// Ea1: the document's example: nothing is busy, and all that have room start, also with a head asked for.
func TestNothingBusy(t *testing.T) {
	s := stepsOf([2]int{0, 8})
	for _, now := range []int{0, 1, longest, latest} {
		for _, head := range []bool{true, false} {
			plan, left, e := Pass(s, now, jobsOf([2]int{3, 9}, [2]int{9, 1}, [2]int{4, 5}, [2]int{1, longest}), head)
			want := stepsThen(s, []api.Busy{{From: now, To: now + 9, Width: 3}, {From: now, To: now + 5, Width: 4}, {From: now, To: now + longest, Width: 1}})
			if e != api.OK || !samePlan(plan, api.Plan{Starts: []int{1, 3, 4}}) || !slices.Equal(left, want) {
				t.Errorf("at %d, %t: %v, %v, %d", now, head, plan, left, e)
			}
		}
	}
}

// Ea1: a few passes by hand, with a head.
func TestHead(t *testing.T) {
	rises := stepsOf([2]int{0, 3}, [2]int{9, 8})
	dips := stepsOf([2]int{2, 4}, [2]int{5, 1}, [2]int{8, 4})
	for _, c := range []struct {
		s        []api.Step
		now      int
		jobs     []api.Job
		starts   []int
		promises []api.Promise
		left     []api.Step
	}{
		// The first one waits, and is the head: it starts no later by those behind it; what ends by 9, or is as narrow as 3, starts.
		{rises, 0, jobsOf([2]int{5, 20}, [2]int{2, 5}, [2]int{9, 1}), []int{2}, toHead(1, 9), stepsOf([2]int{0, 1}, [2]int{5, 3}, [2]int{29, 8})},
		{rises, 0, jobsOf([2]int{5, 20}, [2]int{3, 40}), []int{2}, toHead(1, 9), stepsOf([2]int{0, 0}, [2]int{29, 5}, [2]int{40, 8})},
		{rises, 0, jobsOf([2]int{6, 20}, [2]int{3, 10}, [2]int{3, 9}), []int{3}, toHead(1, 9), stepsOf([2]int{0, 0}, [2]int{9, 2}, [2]int{29, 8})},
		// Those ahead of the head start first, and what they take delays it; but one head is promised, and the next one that waits is not.
		{rises, 0, jobsOf([2]int{1, 12}, [2]int{8, 4}, [2]int{8, 4}, [2]int{1, 13}, [2]int{2, 12}), []int{1, 5}, toHead(2, 12), stepsOf([2]int{0, 0}, [2]int{9, 5}, [2]int{12, 0}, [2]int{16, 8})},
		// One that has no shadow is passed over, ahead of the head and behind it: the next one that waits is the head.
		{rises, 0, jobsOf([2]int{9, 1}, [2]int{0, 1}, [2]int{8, 1}, [2]int{4, 1}, [2]int{2, 1}, [2]int{9, 9}), []int{5}, toHead(3, 9), stepsOf([2]int{0, 1}, [2]int{1, 3}, [2]int{9, 0}, [2]int{10, 8})},
		{rises, 0, jobsOf([2]int{9, 1}, [2]int{2, longest + 1}, [2]int{1, 1}), []int{3}, nil, stepsOf([2]int{0, 2}, [2]int{1, 3}, [2]int{9, 8})},
		// Fewer are free behind now: the head is the first one that would not be over ahead of that.
		{dips, 2, jobsOf([2]int{2, 4}, [2]int{2, 3}, [2]int{3, 3}, [2]int{2, 3}, [2]int{1, 9}), []int{2, 4}, toHead(1, 8), stepsOf([2]int{2, 0}, [2]int{5, 1}, [2]int{8, 2}, [2]int{12, 4})},
		{dips, 3, jobsOf([2]int{1, 5}, [2]int{4, 1}, [2]int{3, 2}, [2]int{1, 7}), []int{1, 3}, toHead(2, 8), stepsOf([2]int{2, 4}, [2]int{3, 0}, [2]int{9, 4})},
		// All is taken by what starts.
		{stepsOf([2]int{4, 2}), 7, jobsOf([2]int{1, 3}, [2]int{1, 3}, [2]int{1, 1}, [2]int{1, 1}), []int{1, 2}, toHead(3, 10), stepsOf([2]int{4, 2}, [2]int{7, 0}, [2]int{10, 1}, [2]int{11, 2})},
		// The last times: no job starts behind MaxTime, and one that would is passed over.
		{stepsOf([2]int{0, 0}, [2]int{latest, 3}), latest - 1, jobsOf([2]int{4, 1}, [2]int{3, longest}, [2]int{1, 1}), nil, toHead(2, latest), stepsOf([2]int{0, 0}, [2]int{latest + longest, 3})},
		{stepsOf([2]int{0, 3}), latest, jobsOf([2]int{3, 1}, [2]int{1, 1}), []int{1}, nil, stepsOf([2]int{0, 3}, [2]int{latest, 0}, [2]int{latest + 1, 3})},
		{stepsOf([2]int{0, 1}, [2]int{latest + 1, 3}), 5, jobsOf([2]int{2, 1}, [2]int{1, 2}), []int{2}, nil, stepsOf([2]int{0, 1}, [2]int{5, 0}, [2]int{7, 1}, [2]int{latest + 1, 3})},
		{stepsOf([2]int{0, greatest}), 0, jobsOf([2]int{greatest, longest}, [2]int{greatest, 2}, [2]int{1, 1}), []int{1}, toHead(2, longest), stepsOf([2]int{0, 0}, [2]int{longest + 2, greatest})},
		// No job starts, or there is none: the steps are as they were.
		{rises, 4, jobsOf([2]int{9, 1}), nil, nil, rises}, {rises, 4, nil, nil, nil, rises}, {dips, latest, []api.Job{}, nil, nil, dips}, {stepsOf([2]int{0, 0}), 0, jobsOf([2]int{1, 1}, [2]int{1, 1}), nil, nil, stepsOf([2]int{0, 0})},
	} {
		plan, left, e := Pass(c.s, c.now, c.jobs, true)
		if e != api.OK || !samePlan(plan, api.Plan{Starts: c.starts, Promises: c.promises}) || !slices.Equal(left, c.left) {
			t.Errorf("Pass(%v, %d, %v, true) = %v, %v, %d; want %v, %v, %v", c.s, c.now, c.jobs, plan, left, e, c.starts, c.promises, c.left)
		}
	}
}

// Ea1: a few passes by hand, without a head: nothing is promised, and each that has room is started, also if one ahead of it waits for what it takes.
func TestNoHead(t *testing.T) {
	rises := stepsOf([2]int{0, 3}, [2]int{9, 8})
	for _, c := range []struct {
		s      []api.Step
		now    int
		jobs   []api.Job
		starts []int
		left   []api.Step
	}{
		{rises, 0, jobsOf([2]int{5, 20}, [2]int{2, 5}, [2]int{9, 1}), []int{2}, stepsOf([2]int{0, 1}, [2]int{5, 3}, [2]int{9, 8})},
		{rises, 0, jobsOf([2]int{8, 20}, [2]int{3, 40}, [2]int{1, 1}), []int{2}, stepsOf([2]int{0, 0}, [2]int{9, 5}, [2]int{40, 8})},
		{rises, 0, jobsOf([2]int{2, 10}, [2]int{2, 5}, [2]int{1, 10}), []int{1, 3}, stepsOf([2]int{0, 0}, [2]int{9, 5}, [2]int{10, 8})},
		{rises, 8, jobsOf([2]int{4, 1}, [2]int{9, 1}), nil, rises}, {rises, 9, nil, nil, rises},
		{stepsOf([2]int{latest, 2}), latest, jobsOf([2]int{1, longest}, [2]int{2, 1}, [2]int{1, 3}), []int{1, 3}, stepsOf([2]int{latest, 0}, [2]int{latest + 3, 1}, [2]int{latest + longest, 2})},
	} {
		plan, left, e := Pass(c.s, c.now, c.jobs, false)
		if e != api.OK || !samePlan(plan, api.Plan{Starts: c.starts}) || !slices.Equal(left, c.left) {
			t.Errorf("Pass(%v, %d, %v, false) = %v, %v, %d; want %v, %v", c.s, c.now, c.jobs, plan, left, e, c.starts, c.left)
		}
	}
}

// Ea1: steps that may not be, with anything beside them: ErrArg, also ahead of ErrFull.
func TestWrongSteps(t *testing.T) {
	for _, s := range noSteps() {
		for _, now := range append(noNows(), 0, 1, 3, 5, 9, latest) {
			for _, n := range []int{0, 1, mostJobs, mostJobs + 1} {
				refused(t, s, now, many(n, 1, 1), api.ErrArg)
			}
		}
	}
}

// Ea1: now is not 0 to MaxTime, or ahead of the first step: ErrArg, also ahead of ErrFull; at the first step, and at MaxTime, it may be.
func TestWrongNow(t *testing.T) {
	for _, first := range []int{0, 1, 7, longest, latest - 1, latest} {
		s := stepsOf([2]int{first, 4}, [2]int{latest + 5, 2}, [2]int{never, 3})
		for _, now := range append(noNows(), first-1, first-2) {
			for _, n := range []int{0, 1, mostJobs, mostJobs + 1} {
				refused(t, s, now, many(n, 1, 1), api.ErrArg)
			}
		}
		for _, now := range []int{first, min(first+1, latest), latest} {
			if e := Check(s, now, many(3, 2, 1)); e != api.OK {
				t.Errorf("Check(%v, %d) = %d", s, now, e)
			}
			samePass(t, s, now, many(3, 2, 1))
		}
	}
}

// Ea1: 100 jobs may be, more may not: each counts, also one that may not be, and one whose Id another one has.
func TestManyJobs(t *testing.T) {
	s := stepsOf([2]int{3, 99}, [2]int{8, 101})
	same := slices.Repeat([]api.Job{{Id: 7, Width: 1, Est: 2}}, mostJobs+1)
	none := make([]api.Job, mostJobs+1)
	for _, l := range [][]api.Job{many(mostJobs+1, 1, 9), same, none} {
		for _, n := range []int{0, 1, 2, mostJobs - 1, mostJobs} {
			if e := Check(s, 5, l[:n]); e != api.OK {
				t.Errorf("Check of %d jobs = %d", n, e)
			}
			samePass(t, s, 5, l[:n])
		}
		refused(t, s, 5, l, api.ErrFull)
		refused(t, s, 5, slices.Repeat(l, 9), api.ErrFull)
	}
	plan, left, e := Pass(s, 5, many(mostJobs, 1, 3), true)
	if e != api.OK || len(plan.Starts) != 99 || plan.Starts[98] != 99 || !slices.Equal(plan.Promises, toHead(100, 8)) || !slices.Equal(left, stepsOf([2]int{3, 99}, [2]int{5, 0}, [2]int{8, 100}, [2]int{11, 101})) {
		t.Errorf("100 jobs: %v, %v, %d", plan, left, e)
	}
}

// Ea1: jobs that may not be by Width or Est have neither room nor a shadow: they are passed over without an error, and none of them is the head.
func TestWrongJobs(t *testing.T) {
	wrong := noJobs()
	for _, s := range [][]api.Step{stepsOf([2]int{0, greatest}), stepsOf([2]int{0, 0}), stepsOf([2]int{0, 0}, [2]int{9, greatest}), stepsOf([2]int{0, greatest}, [2]int{9, 0})} {
		for _, now := range []int{0, 9, latest} {
			for _, head := range []bool{true, false} {
				plan, left, e := Pass(s, now, wrong, head)
				if e != api.OK || !samePlan(plan, api.Plan{}) || !slices.Equal(left, s) {
					t.Errorf("Pass(%v, %d, wrong ones, %t) = %v, %v, %d", s, now, head, plan, left, e)
				}
			}
			samePass(t, s, now, slices.Concat(wrong, jobsOf([2]int{greatest, 2}, [2]int{1, 1}, [2]int{2, 9}), wrong[:9]))
		}
	}
	plan, _, _ := Pass(stepsOf([2]int{0, 1}, [2]int{9, greatest}), 2, slices.Concat(wrong, jobsOf([2]int{greatest, 2}, [2]int{1, 1})), true)
	if !samePlan(plan, api.Plan{Starts: []int{2}, Promises: toHead(1, 9)}) {
		t.Errorf("behind wrong ones: %v", plan)
	}
}

// Ea1: jobs are looked at as they stand, by Width and Est alone; each job counts, also one whose Id another one has, and Ids may be any.
func TestOtherFields(t *testing.T) {
	s := stepsOf([2]int{0, 2}, [2]int{6, 7})
	odd := []api.Job{
		{Id: 7, User: "bob", Width: 1, Est: 4, Prio: 1, Sub: 90, State: api.JobDone, Start: 4, End: 5},
		{Id: 7, User: "bob", Width: 1, Est: 4, Prio: 9, Sub: 8, State: api.JobHeld},
		{Id: -1, Width: 7, Est: 4, Prio: -5, Sub: -9, State: 77, Start: 40, End: 2},
		{Id: 7, Width: 7, Est: 4, Prio: 1000},
		{Id: math.MinInt, Width: 1, Est: 1, Sub: latest},
	}
	plan, left, e := Pass(s, 1, odd, true)
	if e != api.OK || !samePlan(plan, api.Plan{Starts: []int{7, 7}, Promises: toHead(-1, 6)}) || !slices.Equal(left, stepsOf([2]int{0, 2}, [2]int{1, 0}, [2]int{5, 2}, [2]int{6, 0}, [2]int{10, 7})) {
		t.Errorf("%v, %v, %d", plan, left, e)
	}
	slices.Reverse(odd)
	plan, left, e = Pass(s, 1, odd, true)
	if e != api.OK || !samePlan(plan, api.Plan{Starts: []int{math.MinInt, 7}, Promises: toHead(7, 6)}) || !slices.Equal(left, stepsOf([2]int{0, 2}, [2]int{1, 0}, [2]int{2, 1}, [2]int{5, 2}, [2]int{6, 0}, [2]int{10, 7})) {
		t.Errorf("turned round: %v, %v, %d", plan, left, e)
	}
}

// Ea1: all lists of three small jobs by small steps, by definition.
func TestSmallByDefinition(t *testing.T) {
	var kinds []api.Job
	for _, width := range []int{1, 2, 3} {
		kinds = append(kinds, api.Job{Id: 10 * width, Width: width, Est: 1}, api.Job{Id: 10*width + 1, Width: width, Est: 3})
	}
	kinds = append(kinds, api.Job{Id: 40, Width: 6, Est: 1})
	for _, s := range append(some([]int{0, 1, 3}, 0, 1, 2, 3), some([]int{1, 2, 5}, 0, 2, 5)...) {
		for now := 1; now <= 4; now++ {
			for _, a := range kinds {
				for _, b := range kinds {
					for _, c := range kinds {
						samePass(t, s, now, []api.Job{a, b, c})
					}
				}
			}
		}
	}
}

// Ea1: steps at the last times, and of the most that may be free, with jobs at edges, by definition.
func TestEndsByDefinition(t *testing.T) {
	var kinds []api.Job
	for n, width := range []int{1, greatest - 1, greatest} {
		kinds = append(kinds, api.Job{Id: 10 * n, Width: width, Est: 1}, api.Job{Id: 10*n + 1, Width: width, Est: 2}, api.Job{Id: 10*n + 2, Width: width, Est: longest})
	}
	l := some([]int{0, longest, latest, latest + 1}, 0, 1, greatest)
	l = append(l, some([]int{latest - 1, latest, latest + longest, never}, 0, greatest-1, greatest)...)
	for _, s := range l {
		for _, now := range []int{0, longest - 1, latest - longest, latest - 1, latest} {
			if now < s[0].At {
				continue
			}
			for _, a := range kinds {
				for _, b := range kinds {
					samePass(t, s, now, []api.Job{a, b, a})
				}
			}
		}
	}
}

// Ea1: longer lists by longer steps, also at the last times, by definition.
func TestMixedByDefinition(t *testing.T) {
	heads := 0
	for seed := range 600 {
		next := mixed(seed)
		widest := []int{4, 20, greatest}[next(3)]
		first := []int{0, 7, latest - 30, latest}[next(4)]
		s := mixedSteps(next, first, 1+next(9), widest)
		jobs := mixedJobs(next, 1+next(30), 1+next(widest), 1+next(25))
		now := min(first+next(30), latest)
		samePass(t, s, now, jobs)
		if place, _ := meantHead(s, now, jobs); 2 < place && place < len(jobs)-3 {
			heads++
		}
	}
	if heads < 30 {
		t.Errorf("%d heads stand amid the jobs", heads)
	}
}

// spots is time by time how many are free, from 0 on, by steps that begin at 0.
func spots(s []api.Step, times int) []int {
	var l []int
	for t := range times {
		l = append(l, freeAt(s, nil, t))
	}
	return l
}

// take takes processors for a job out of a table of times, one by one, and tells whether they are there.
func take(free []int, at int, j api.Job) bool {
	ok := true
	for t := at; t < at+j.Est; t++ {
		free[t] -= j.Width
		ok = ok && free[t] >= 0
	}
	return ok
}

// Ea1, Ea2: passes against a table of times, one by one: all that is started, and the head, has room, one behind the other, what is left is what the steps tell, and of those that neither started nor are promised none has room; the head has none ahead of its time.
func TestTimeByTime(t *testing.T) {
	const times = 300
	promised := 0
	for seed := range 300 {
		next := mixed(seed)
		widest := 2 + next(12)
		s := append(mixedSteps(next, 0, 1+next(8), widest), api.Step{At: 60, Free: widest + 1})
		jobs := mixedJobs(next, 40, widest+1, 15)
		now := next(20)
		for n := range jobs {
			jobs[n].Id = n
		}
		plan, left, e := Pass(s, now, jobs, true)
		if e != api.OK || len(plan.Promises) > 1 || !slices.IsSorted(plan.Starts) {
			t.Fatalf("Pass(%v, %d, %v) = %v, %v, %d", s, now, jobs, plan, left, e)
		}
		free := spots(s, times)
		for n, j := range jobs {
			if slices.Contains(plan.Starts, n) {
				if !take(free, now, j) {
					t.Fatalf("Pass(%v, %d, %v) = %v: no room for %d", s, now, jobs, plan, n)
				}
			} else if slices.ContainsFunc(plan.Promises, func(p api.Promise) bool { return p.Id == n }) {
				promised++
				for at := now; at < plan.Promises[0].At; at++ {
					if slices.Min(free[at:at+j.Est]) >= j.Width {
						t.Fatalf("Pass(%v, %d, %v) = %v: room for the head at %d", s, now, jobs, plan, at)
					}
				}
				if plan.Promises[0].Slack != 0 || !take(free, plan.Promises[0].At, j) {
					t.Fatalf("Pass(%v, %d, %v) = %v: no room for the head", s, now, jobs, plan)
				}
			} else if slices.Min(free[now:now+j.Est]) >= j.Width {
				t.Fatalf("Pass(%v, %d, %v) = %v: %d has room", s, now, jobs, plan, n)
			}
		}
		if !slices.Equal(spots(left, times), free) {
			t.Fatalf("Pass(%v, %d, %v): left %v", s, now, jobs, left)
		}
	}
	if promised < 200 {
		t.Errorf("%d heads", promised)
	}
}

// Ea2: those behind a job turn nothing of what is started ahead of them, and nothing of the head's promise.
func TestBehindTurnsNothing(t *testing.T) {
	for seed := range 200 {
		next := mixed(seed)
		widest := 2 + next(12)
		s := append(mixedSteps(next, 0, 1+next(8), widest), api.Step{At: 60, Free: widest + 1})
		jobs := mixedJobs(next, 30, widest+1, 15)
		now := next(20)
		for _, head := range []bool{true, false} {
			whole, _, _ := Pass(s, now, jobs, head)
			for n := range jobs {
				plan, _, e := Pass(s, now, jobs[:n], head)
				starts, promises := len(plan.Starts), len(plan.Promises)
				if e != api.OK || starts > len(whole.Starts) || promises > len(whole.Promises) || !samePlan(plan, api.Plan{Starts: whole.Starts[:starts], Promises: whole.Promises[:promises]}) {
					t.Fatalf("Pass(%v, %d, %v, %t): %v; of the first %d: %v", s, now, jobs, head, whole, n, plan)
				}
			}
		}
		place, at := meantHead(s, now, jobs)
		if place == len(jobs) {
			continue
		}
		plan, _, _ := Pass(s, now, jobs[:place+1], true)
		whole, _, _ := Pass(s, now, jobs, true)
		if want := toHead(jobs[place].Id, at); !slices.Equal(plan.Promises, want) || !slices.Equal(whole.Promises, want) {
			t.Fatalf("Pass(%v, %d, %v): %v; without those behind the head: %v; meant: %v", s, now, jobs, whole, plan, want)
		}
	}
}

// R3: nothing is written to what is handed in, and answers are new memory, also where nothing is laid.
func TestNewMemory(t *testing.T) {
	s := stepsOf([2]int{4, 3}, [2]int{9, 8}, [2]int{12, 1})
	jobs := jobsOf([2]int{1, 20}, [2]int{2, 5}, [2]int{3, 3}, [2]int{9, 9})
	wasS, wasJobs := slices.Clone(s), slices.Clone(jobs)
	Check(s[:2], 5, jobs[:3])
	for _, head := range []bool{true, false} {
		plan, left, _ := Pass(s[:2], 5, jobs[:3], head)
		_, none, _ := Pass(s[:2], 5, jobs[3:], head)
		_, empty, _ := Pass(s[:2], 5, nil, head)
		if !slices.Equal(s, wasS) || !slices.Equal(jobs, wasJobs) {
			t.Fatalf("turned: %v, %v", s, jobs)
		}
		for n, l := range [][]api.Step{left, none, empty} {
			if len(l) == 0 {
				t.Fatalf("nothing from call %d", n)
			}
			l[0].Free = 50
			_ = append(l, api.Step{At: 51})
			if !slices.Equal(s, wasS) {
				t.Fatalf("the answer of call %d is shared: %v", n, s)
			}
		}
		plan.Starts[0] = 50
		want := api.Plan{Starts: []int{1, 2}}
		if head {
			plan.Promises[0].At = 50
			want.Promises = toHead(3, 9)
		}
		if again, _, _ := Pass(s[:2], 5, jobs[:3], head); !samePlan(again, want) || !slices.Equal(jobs, wasJobs) {
			t.Errorf("an answer has turned: %v, %v", again, jobs)
		}
	}
}

// Ea1 and Ea2 of any steps, times and jobs: go test -run xxx -fuzz=FuzzPasses ./easy.
func FuzzPasses(f *testing.F) {
	f.Add([]byte{3, 9, 8}, []byte{2, 19, 1, 4}, 0, 0, 3, 20)
	f.Add([]byte{255, 1, 254, 2, 255}, []byte{255, 255, 0, 0, 128, 3}, latest-3, latest, greatest, longest)
	f.Add([]byte{4}, []byte{1, 1}, 0, -5, math.MinInt, math.MaxInt)
	f.Fuzz(func(t *testing.T, turns, some []byte, first, now, width, est int) {
		// What is free, and behind it how long it stays so, in turn.
		var s []api.Step
		from := first
		for n, b := range turns {
			if n%2 == 1 {
				from += 1 + int(b)
			} else if len(s) == 0 || s[len(s)-1].Free != int(b) {
				s = append(s, api.Step{At: from, Free: int(b)})
			}
		}
		jobs := []api.Job{{Id: 1, Width: width, Est: est}}
		for n := 1; n < len(some); n += 2 {
			jobs = append(jobs, api.Job{Id: n, Width: int(some[n-1]), Est: int(int8(some[n]))})
		}
		if len(s) == 0 || first < 0 || first > latest || now < first || now > latest {
			refused(t, s, now, jobs, api.ErrArg)
		} else if len(jobs) > mostJobs {
			refused(t, s, now, jobs, api.ErrFull)
		} else if len(s) < 100 {
			samePass(t, s, now, jobs)
		}
	})
}
