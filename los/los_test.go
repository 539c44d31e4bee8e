package los

import (
	"math"
	"slices"
	"testing"

	"stint/api"
	"stint/easy"
	"stint/shadow"
)

const (
	greatest = 256
	latest   = api.MaxTime
	longest  = api.MaxEst
	never    = api.Never
	mostJobs = 100
	mostK    = 32
)

// noSteps are steps that may not be.
func noSteps() [][]api.Step {
	return [][]api.Step{
		nil, {}, {{At: -1, Free: 4}}, {{At: latest + 1, Free: 4}}, {{At: math.MinInt, Free: 4}}, {{At: math.MaxInt, Free: 4}}, {{At: 0, Free: -1}}, {{At: 0, Free: greatest + 1}}, {{At: 0, Free: math.MaxInt}},
		{{At: 0, Free: 4}, {At: 0, Free: 5}}, {{At: 0, Free: 4}, {At: 5, Free: 4}}, {{At: 3, Free: 4}, {At: 2, Free: 5}}, {{At: 0, Free: 4}, {At: -1, Free: 5}},
		{{At: 0, Free: 4}, {At: 5, Free: 6}, {At: never + 1, Free: 4}}, {{At: 0, Free: 4}, {At: 5, Free: 6}, {At: 9, Free: -1}}, {{At: 0, Free: 4}, {At: 5, Free: 6}, {At: 9, Free: greatest + 1}}, {{At: 0, Free: 4}, {At: 5, Free: 6}, {At: 9, Free: 6}},
	}
}

// noNows are times that are none, by whatever steps.
func noNows() []int {
	return []int{math.MinInt, -latest, -2, -1, latest + 1, never - 1, never, never + 1, math.MaxInt}
}

// noKs are how many jobs may not be looked at.
func noKs() []int {
	return []int{math.MinInt, -latest, -mostK, -1, 0, mostK + 1, mostK + 2, 64, mostJobs, greatest, 1 << 32, 1<<32 + 1, never, math.MaxInt}
}

// aheads are looks of each of so many jobs, with a head and without.
func aheads(ks ...int) []api.Ahead {
	var l []api.Ahead
	for _, k := range ks {
		l = append(l, api.Ahead{K: k, Head: true}, api.Ahead{K: k})
	}
	return l
}

// noJobs are jobs that may not be by their Width or Est, or by both.
func noJobs() []api.Job {
	l := []api.Job{{}, {Id: 1}}
	for _, width := range []int{math.MinInt, -greatest, -1, 0, greatest + 1, 1 << 32, 1<<32 + 1, math.MaxInt} {
		l = append(l, api.Job{Id: 2, Width: width, Est: 1}, api.Job{Id: 3, Width: width, Est: longest}, api.Job{Id: 4, Width: width})
	}
	for _, est := range []int{math.MinInt, -longest, -1, 0, longest + 1, latest, never, math.MaxInt} {
		l = append(l, api.Job{Id: 5, Width: 1, Est: est}, api.Job{Id: 6, Width: greatest, Est: est}, api.Job{Id: 7, Est: est})
	}
	return l
}

// jobsOf are jobs of Ids from 1 on, of widths and lengths, by pairs.
func jobsOf(pairs ...[2]int) []api.Job {
	var l []api.Job
	for n, p := range pairs {
		l = append(l, api.Job{Id: n + 1, Width: p[0], Est: p[1]})
	}
	return l
}

// many is so many jobs of Ids from 1 on, of a width and a length.
func many(n, width, est int) []api.Job {
	var l []api.Job
	for id := 1; id <= n; id++ {
		l = append(l, api.Job{Id: id, Width: width, Est: est})
	}
	return l
}

// stepsOf are steps of times and how many are free, by pairs.
func stepsOf(pairs ...[2]int) []api.Step {
	var l []api.Step
	for _, p := range pairs {
		l = append(l, api.Step{At: p[0], Free: p[1]})
	}
	return l
}

// promisesOf are promises of Ids and times, without slack, by pairs.
func promisesOf(pairs ...[2]int) []api.Promise {
	var l []api.Promise
	for _, p := range pairs {
		l = append(l, api.Promise{Id: p[0], At: p[1], Slack: 0})
	}
	return l
}

// freeAt is by definition how many are free at a time, by steps and what is taken beside them.
func freeAt(s []api.Step, taken []api.Busy, t int) int {
	free := 0
	for _, a := range s {
		if a.At <= t {
			free = a.Free
		}
	}
	for _, b := range taken {
		if b.From <= t && t < b.To {
			free -= b.Width
		}
	}
	return free
}

// turns are the times at which something may turn, and this one, rising.
func turns(s []api.Step, taken []api.Busy, at int) []int {
	l := []int{at}
	for _, a := range s {
		l = append(l, a.At)
	}
	for _, b := range taken {
		l = append(l, b.From, b.To)
	}
	slices.Sort(l)
	return slices.Compact(l)
}

// mayRun tells by definition whether a job may have room anywhere.
func mayRun(j api.Job) bool {
	return 1 <= j.Width && j.Width <= greatest && 1 <= j.Est && j.Est <= longest
}

// meantShadow is by definition the least time from now on from which a job has room, and whether there is one: room that is not there ahead of a time begins where something turns.
func meantShadow(s []api.Step, taken []api.Busy, now int, j api.Job) (int, bool) {
	if !mayRun(j) {
		return 0, false
	}
	l := turns(s, taken, now)
	// Ahead of at there is no room that goes on up to where is looked.
	at, is := now, false
	for n, t := range l {
		if t < now {
			continue
		}
		if is && t-at >= j.Est {
			return at, true
		}
		if freeAt(s, taken, t) < j.Width {
			is = false
		} else if !is {
			at, is = t, true
		}
		if is && at > latest {
			return 0, false
		}
		if is && n == len(l)-1 {
			return at, true
		}
	}
	return 0, false
}

// run is what a job takes that is laid from a time on.
func run(at int, j api.Job) api.Busy {
	return api.Busy{From: at, To: at + j.Est, Width: j.Width}
}

// meantBehind is Behind by definition, of what 16's Check takes: the head's place, the Ids of those that are started ahead of it, and what they take.
func meantBehind(s []api.Step, now int, jobs []api.Job) (int, []int, []api.Busy) {
	var starts []int
	var taken []api.Busy
	for n, j := range jobs {
		at, ok := meantShadow(s, taken, now, j)
		if ok && at > now {
			return n, starts, taken
		}
		if ok {
			starts = append(starts, j.Id)
			taken = append(taken, run(now, j))
		}
	}
	return len(jobs), starts, taken
}

// meantChoice is by definition the places of the fullest choice of jobs that start now, in a room, and in a long room of those that run behind a reserved time: of those that are as full the one of the earliest places.
func meantChoice(looked []api.Job, now, reserved, room, long int) []int {
	type left struct{ n, room, long int }
	known := map[left]int{}
	part := func(j api.Job) int {
		if now+j.Est > reserved {
			return j.Width
		}
		return 0
	}
	var most func(x left) int
	with := func(x left) (left, bool) {
		j := looked[x.n]
		return left{x.n + 1, x.room - j.Width, x.long - part(j)}, j.Width <= x.room && part(j) <= x.long
	}
	most = func(x left) int {
		if x.n == len(looked) {
			return 0
		}
		if _, ok := known[x]; !ok {
			known[x] = most(left{x.n + 1, x.room, x.long})
			if y, ok := with(x); ok {
				known[x] = max(known[x], looked[x.n].Width+most(y))
			}
		}
		return known[x]
	}
	var places []int
	x := left{0, room, long}
	for n, j := range looked {
		if y, ok := with(x); ok && j.Width+most(y) == most(x) {
			places = append(places, n)
			x = y
		} else {
			x.n++
		}
	}
	return places
}

// meantPass is Pass by definition, of what it takes: the plan, and what it takes.
func meantPass(s []api.Step, now int, jobs []api.Job, x api.Ahead) (api.Plan, []api.Busy) {
	head, starts, taken := meantBehind(s, now, jobs)
	plan := api.Plan{Starts: starts}
	if head == len(jobs) {
		return plan, taken
	}
	reserved, long := never, greatest
	if x.Head {
		at, _ := meantShadow(s, taken, now, jobs[head])
		reserved, long = at, freeAt(s, taken, at)-jobs[head].Width
		plan.Promises = []api.Promise{{Id: jobs[head].Id, At: at, Slack: 0}}
		taken = append(taken, run(at, jobs[head]))
	}
	rest := jobs[head+1:]
	var looked []api.Job
	for _, j := range rest {
		if at, ok := meantShadow(s, taken, now, j); ok && at == now && len(looked) < x.K {
			looked = append(looked, j)
		}
	}
	for _, n := range meantChoice(looked, now, reserved, freeAt(s, taken, now), long) {
		first := slices.IndexFunc(rest, func(j api.Job) bool { return j.Id == looked[n].Id })
		if at, ok := meantShadow(s, taken, now, rest[first]); ok && at == now {
			plan.Starts = append(plan.Starts, rest[first].Id)
			taken = append(taken, run(now, rest[first]))
		}
	}
	return plan, taken
}

// stepsThen is by definition the steps with what is taken.
func stepsThen(s []api.Step, taken []api.Busy) []api.Step {
	var l []api.Step
	for _, t := range turns(s, taken, s[0].At) {
		free := freeAt(s, taken, t)
		if len(l) == 0 || l[len(l)-1].Free != free {
			l = append(l, api.Step{At: t, Free: free})
		}
	}
	return l
}

// samePlan tells whether plans are alike.
func samePlan(a, b api.Plan) bool {
	return slices.Equal(a.Starts, b.Starts) && slices.Equal(a.Promises, b.Promises)
}

// samePass tells what is wrong with a pass of what 16's Check takes, by each of these looks.
func samePass(t *testing.T, s []api.Step, now int, jobs []api.Job, looks ...api.Ahead) {
	t.Helper()
	head, ids, left := Behind(s, now, jobs)
	place, starts, taken := meantBehind(s, now, jobs)
	if then := stepsThen(s, taken); head != place || !slices.Equal(ids, starts) || !slices.Equal(left, then) {
		t.Fatalf("Behind(%v, %d, %v) = %d, %v, %v; meant: %d, %v, %v", s, now, jobs, head, ids, left, place, starts, then)
	}
	for _, x := range looks {
		plan, left, e := Pass(s, now, jobs, x)
		want, taken := meantPass(s, now, jobs, x)
		if then := stepsThen(s, taken); e != api.OK || !samePlan(plan, want) || !slices.Equal(left, then) {
			t.Fatalf("Pass(%v, %d, %v, %v) = %v, %v, %d; meant: %v, %v", s, now, jobs, x, plan, left, e, want, then)
		}
	}
}

// refused tells what is wrong with passes that have an error by 16's Check, by whatever look.
func refused(t *testing.T, s []api.Step, now int, jobs []api.Job, want api.Errno) {
	t.Helper()
	head, ids, left := Behind(s, now, jobs)
	if head != 0 || len(ids) != 0 || len(left) != 0 {
		t.Errorf("Behind(%v, %d, %d jobs) = %d, %v, %v; want 0 and nothing", s, now, len(jobs), head, ids, left)
	}
	for _, x := range aheads(append(noKs(), 1, 5, mostK)...) {
		notLooked(t, s, now, jobs, x, want)
	}
}

// notLooked tells what is wrong with a pass that has an error.
func notLooked(t *testing.T, s []api.Step, now int, jobs []api.Job, x api.Ahead, want api.Errno) {
	t.Helper()
	plan, left, e := Pass(s, now, jobs, x)
	if e != want || len(plan.Starts) != 0 || len(plan.Promises) != 0 || len(left) != 0 {
		t.Errorf("Pass(%v, %d, %d jobs, %v) = %v, %v, %d; want %d", s, now, len(jobs), x, plan, left, e, want)
	}
}

// some are all steps that begin at the first of these times and have others at some of the rest.
func some(times []int, frees ...int) [][]api.Step {
	var all [][]api.Step
	for _, free := range frees {
		all = append(all, []api.Step{{At: times[0], Free: free}})
	}
	for _, at := range times[1:] {
		for _, s := range slices.Clone(all) {
			for _, free := range frees {
				if free != s[len(s)-1].Free {
					all = append(all, append(slices.Clone(s), api.Step{At: at, Free: free}))
				}
			}
		}
	}
	return all
}

// mixed is numbers that follow a rule, each below what is asked.
func mixed(seed int) func(below int) int {
	x := uint64(seed)*2654435761 + 12345
	return func(below int) int {
		x ^= x << 13
		x ^= x >> 7
		x ^= x << 17
		return int(x >> 1 % uint64(below))
	}
}

// mixedSteps are some steps from a time on, of so many free at most.
func mixedSteps(next func(below int) int, first, most, widest int) []api.Step {
	var s []api.Step
	at := first
	for range most {
		if free := next(widest + 1); len(s) == 0 || s[len(s)-1].Free != free {
			s = append(s, api.Step{At: at, Free: free})
		}
		at += 1 + next(6)
	}
	return s
}

// mixedJobs are some jobs, of which some Ids are alike.
func mixedJobs(next func(below int) int, n, widest, longest int) []api.Job {
	var l []api.Job
	for range n {
		l = append(l, api.Job{Id: 1 + next(n*2), User: "ann", Width: 1 + next(widest), Est: 1 + next(longest), Prio: next(9), Sub: next(50), State: api.JobQueued})
	}
	return l
}

// mixedCase is steps in which all jobs but the widest ones have a shadow, a time, and jobs, of which the widest one is the first or stands behind others: so there is a head.
func mixedCase(seed, n int) (s []api.Step, now int, jobs []api.Job) {
	next := mixed(seed)
	widest := 3 + next(20)
	s = append(mixedSteps(next, 0, 1+next(8), widest), api.Step{At: 60, Free: widest + 1})
	jobs = mixedJobs(next, n, 1+widest/2, 15)
	if n > 0 {
		jobs[next(min(n, 5))].Width = widest + 1 + next(8)/7
	}
	return s, next(20), jobs
}

// risingCase is a mixed case where what is free never falls from now on, and each job has an Id of its own.
func risingCase(seed, n int) (s []api.Step, now int, jobs []api.Job) {
	s, now, jobs = mixedCase(seed, n)
	free := -1
	var l []api.Step
	for _, a := range s {
		if a.At > now {
			// What is free at now is by the last step up to it.
			if free < 0 && len(l) > 0 {
				free = l[len(l)-1].Free
			}
			if a.Free <= free {
				continue
			}
			free = a.Free
		}
		l = append(l, a)
	}
	for n := range jobs {
		jobs[n].Id = n + 1
	}
	return l, now, jobs
}

// Lo1: the document's examples, and others by hand: the fullest choice behind the head is started.
func TestByHand(t *testing.T) {
	rises := stepsOf([2]int{0, 5}, [2]int{9, 8})
	dips := stepsOf([2]int{0, 4}, [2]int{3, 2}, [2]int{9, 8})
	given := []api.Job{{Id: 1, Width: 8, Est: 2}, {Id: 4, Width: 4, Est: 5}, {Id: 5, Width: 3, Est: 5}, {Id: 6, Width: 2, Est: 5}}
	// What is long, and when: of those that run behind 9, where the head starts, 2 wide have room.
	spare := jobsOf([2]int{6, 10}, [2]int{2, 20}, [2]int{2, 10}, [2]int{3, 9}, [2]int{1, 9})
	falls := jobsOf([2]int{8, 1}, [2]int{2, 5}, [2]int{2, 5}, [2]int{1, 3})
	front := jobsOf([2]int{2, 4}, [2]int{9, 1}, [2]int{1, 12}, [2]int{8, 3}, [2]int{7, 1}, [2]int{2, 2}, [2]int{1, 30})
	last := stepsOf([2]int{0, 2}, [2]int{latest, 3})
	for _, c := range []struct {
		s        []api.Step
		now      int
		jobs     []api.Job
		x        api.Ahead
		starts   []int
		promises []api.Promise
		left     []api.Step
	}{
		{rises, 0, given, api.Ahead{K: 5, Head: true}, []int{5, 6}, promisesOf([2]int{1, 9}), stepsOf([2]int{0, 0}, [2]int{5, 5}, [2]int{9, 0}, [2]int{11, 8})},
		{rises, 0, given, api.Ahead{K: 3, Head: true}, []int{5, 6}, promisesOf([2]int{1, 9}), stepsOf([2]int{0, 0}, [2]int{5, 5}, [2]int{9, 0}, [2]int{11, 8})},
		{rises, 0, given, api.Ahead{K: 2, Head: true}, []int{4}, promisesOf([2]int{1, 9}), stepsOf([2]int{0, 1}, [2]int{5, 5}, [2]int{9, 0}, [2]int{11, 8})},
		{rises, 0, given, api.Ahead{K: 1, Head: true}, []int{4}, promisesOf([2]int{1, 9}), stepsOf([2]int{0, 1}, [2]int{5, 5}, [2]int{9, 0}, [2]int{11, 8})},
		{rises, 0, given, api.Ahead{K: 5}, []int{5, 6}, nil, stepsOf([2]int{0, 0}, [2]int{5, 5}, [2]int{9, 8})},
		{rises, 0, given, api.Ahead{K: 1}, []int{4}, nil, stepsOf([2]int{0, 1}, [2]int{5, 5}, [2]int{9, 8})},
		{rises, 0, spare, api.Ahead{K: 32, Head: true}, []int{2, 4}, promisesOf([2]int{1, 9}), stepsOf([2]int{0, 0}, [2]int{19, 6}, [2]int{20, 8})},
		{rises, 0, spare, api.Ahead{K: 3, Head: true}, []int{2, 4}, promisesOf([2]int{1, 9}), stepsOf([2]int{0, 0}, [2]int{19, 6}, [2]int{20, 8})},
		{rises, 0, spare, api.Ahead{K: 2, Head: true}, []int{2}, promisesOf([2]int{1, 9}), stepsOf([2]int{0, 3}, [2]int{9, 0}, [2]int{19, 6}, [2]int{20, 8})},
		{rises, 0, spare, api.Ahead{K: 32}, []int{2, 3, 5}, nil, stepsOf([2]int{0, 0}, [2]int{9, 4}, [2]int{10, 6}, [2]int{20, 8})},
		{rises, 0, spare, api.Ahead{K: 2}, []int{2, 3}, nil, stepsOf([2]int{0, 1}, [2]int{9, 4}, [2]int{10, 6}, [2]int{20, 8})},
		// What is free falls: each of 2 and 3 has room alone. The choice stays 2 and 3, and 4 is not started in place of 3.
		{dips, 0, falls, api.Ahead{K: 3, Head: true}, []int{2}, promisesOf([2]int{1, 9}), stepsOf([2]int{0, 2}, [2]int{3, 0}, [2]int{5, 2}, [2]int{9, 0}, [2]int{10, 8})},
		{dips, 0, falls, api.Ahead{K: 3}, []int{2}, nil, stepsOf([2]int{0, 2}, [2]int{3, 0}, [2]int{5, 2}, [2]int{9, 8})},
		{dips, 0, jobsOf([2]int{8, 1}, [2]int{2, 5}, [2]int{1, 5}, [2]int{1, 3}), api.Ahead{K: 3, Head: true}, []int{2, 4}, promisesOf([2]int{1, 9}), stepsOf([2]int{0, 1}, [2]int{3, 0}, [2]int{5, 2}, [2]int{9, 0}, [2]int{10, 8})},
		// Some start ahead of the head; one that has no shadow is passed over, ahead of the head and behind it; the head takes its room from those behind it.
		{rises, 1, front, api.Ahead{K: 9, Head: true}, []int{1, 3, 6}, promisesOf([2]int{4, 13}), stepsOf([2]int{0, 5}, [2]int{1, 0}, [2]int{3, 2}, [2]int{5, 4}, [2]int{9, 7}, [2]int{13, 0}, [2]int{16, 8})},
		{rises, 1, front, api.Ahead{K: 9}, []int{1, 3, 6}, nil, stepsOf([2]int{0, 5}, [2]int{1, 0}, [2]int{3, 2}, [2]int{5, 4}, [2]int{9, 7}, [2]int{13, 8})},
		{rises, 1, front[:5], api.Ahead{K: 9, Head: true}, []int{1, 3}, promisesOf([2]int{4, 13}), stepsOf([2]int{0, 5}, [2]int{1, 2}, [2]int{5, 4}, [2]int{9, 7}, [2]int{13, 0}, [2]int{16, 8})},
		{rises, 1, front[:3], api.Ahead{K: 9, Head: true}, []int{1, 3}, nil, stepsOf([2]int{0, 5}, [2]int{1, 2}, [2]int{5, 4}, [2]int{9, 7}, [2]int{13, 8})},
		// The last times.
		{last, latest - 1, jobsOf([2]int{3, longest}, [2]int{1, 2}, [2]int{2, 1}), api.Ahead{K: 2, Head: true}, []int{3}, promisesOf([2]int{1, latest}), stepsOf([2]int{0, 2}, [2]int{latest - 1, 0}, [2]int{latest + longest, 3})},
		{last, latest - 1, jobsOf([2]int{3, longest}, [2]int{1, longest}, [2]int{1, longest}, [2]int{2, 1}), api.Ahead{K: 2}, []int{2, 3}, nil, stepsOf([2]int{0, 2}, [2]int{latest - 1, 0}, [2]int{latest, 1}, [2]int{latest + longest - 1, 3})},
		{last, latest, jobsOf([2]int{2, 1}, [2]int{2, 1}, [2]int{1, 1}), api.Ahead{K: 32, Head: true}, []int{1, 3}, nil, stepsOf([2]int{0, 2}, [2]int{latest, 0}, [2]int{latest + 1, 3})},
		// Nothing is laid, or there is no job: the steps are as they were.
		{rises, 4, jobsOf([2]int{9, 1}), api.Ahead{K: 1, Head: true}, nil, nil, rises}, {rises, 4, jobsOf([2]int{6, 1}, [2]int{7, 1}), api.Ahead{K: 1}, nil, nil, rises},
		{rises, 4, nil, api.Ahead{K: 32, Head: true}, nil, nil, rises}, {dips, latest, []api.Job{}, api.Ahead{K: 1}, nil, nil, dips}, {stepsOf([2]int{0, 0}), 0, jobsOf([2]int{1, 1}, [2]int{1, 1}), api.Ahead{K: 2, Head: true}, nil, nil, stepsOf([2]int{0, 0})},
	} {
		plan, left, e := Pass(c.s, c.now, c.jobs, c.x)
		if e != api.OK || !samePlan(plan, api.Plan{Starts: c.starts, Promises: c.promises}) || !slices.Equal(left, c.left) {
			t.Errorf("Pass(%v, %d, %v, %v) = %v, %v, %d; want %v, %v, %v", c.s, c.now, c.jobs, c.x, plan, left, e, c.starts, c.promises, c.left)
		}
	}
}

// Lo1: Behind by hand: the first one that has a shadow but no room, whoever was passed over, or started, ahead of it.
func TestBehindByHand(t *testing.T) {
	rises := stepsOf([2]int{0, 5}, [2]int{9, 8})
	for _, c := range []struct {
		s    []api.Step
		now  int
		jobs []api.Job
		head int
		ids  []int
		left []api.Step
	}{
		{rises, 0, jobsOf([2]int{6, 1}, [2]int{1, 1}), 0, nil, rises},
		{rises, 9, jobsOf([2]int{6, 1}, [2]int{2, 1}), 2, []int{1, 2}, stepsOf([2]int{0, 5}, [2]int{9, 0}, [2]int{10, 8})},
		{rises, 3, jobsOf([2]int{2, 1}, [2]int{9, 1}, [2]int{3, 7}, [2]int{0, 1}, [2]int{1, 2}, [2]int{2, 1}), 4, []int{1, 3}, stepsOf([2]int{0, 5}, [2]int{3, 0}, [2]int{4, 2}, [2]int{9, 5}, [2]int{10, 8})},
		{rises, 3, jobsOf([2]int{9, 1}, [2]int{1, 0}, [2]int{5, 7}, [2]int{1, 1}), 3, []int{3}, stepsOf([2]int{0, 5}, [2]int{3, 0}, [2]int{9, 3}, [2]int{10, 8})},
		{rises, 3, jobsOf([2]int{9, 1}, [2]int{1, -1}, [2]int{greatest + 1, 1}), 3, nil, rises},
		// At MaxTime none has a shadow behind it: one that has no room is no head.
		{rises, latest, jobsOf([2]int{8, longest}, [2]int{1, 1}), 2, []int{1}, stepsOf([2]int{0, 5}, [2]int{9, 8}, [2]int{latest, 0}, [2]int{latest + longest, 8})},
		{rises, latest - 1, jobsOf([2]int{8, 1}, [2]int{1, 1}), 1, []int{1}, stepsOf([2]int{0, 5}, [2]int{9, 8}, [2]int{latest - 1, 0}, [2]int{latest, 8})},
		{rises, latest - 1, jobsOf([2]int{8, 2}, [2]int{1, 1}), 2, []int{1}, stepsOf([2]int{0, 5}, [2]int{9, 8}, [2]int{latest - 1, 0}, [2]int{latest + 1, 8})},
		{rises, 2, nil, 0, nil, rises}, {rises, 2, []api.Job{}, 0, nil, rises},
	} {
		head, ids, left := Behind(c.s, c.now, c.jobs)
		if head != c.head || !slices.Equal(ids, c.ids) || !slices.Equal(left, c.left) {
			t.Errorf("Behind(%v, %d, %v) = %d, %v, %v; want %d, %v, %v", c.s, c.now, c.jobs, head, ids, left, c.head, c.ids, c.left)
		}
	}
}

// Lo1: an Id of the choice means the first job of this Id behind the head, whichever was looked at; what stands ahead is not meant.
func TestSameIds(t *testing.T) {
	s := stepsOf([2]int{0, 3}, [2]int{9, 8})
	job := func(id, width, est int) api.Job { return api.Job{Id: id, Width: width, Est: est} }
	for _, c := range []struct {
		jobs   []api.Job
		k      int
		starts []int
		left   []api.Step
	}{
		// The first one has no room: nothing starts for the one that was looked at.
		{[]api.Job{job(1, 8, 2), job(7, 4, 1), job(7, 2, 5)}, 5, nil, stepsOf([2]int{0, 3}, [2]int{9, 0}, [2]int{11, 8})},
		{[]api.Job{job(1, 8, 2), job(7, 0, 1), job(7, 2, 5), job(8, 1, 4)}, 5, []int{8}, stepsOf([2]int{0, 2}, [2]int{4, 3}, [2]int{9, 0}, [2]int{11, 8})},
		// Both were looked at: the first one is laid for each of them.
		{[]api.Job{job(1, 8, 2), job(7, 1, 2), job(7, 1, 8)}, 5, []int{7, 7}, stepsOf([2]int{0, 1}, [2]int{2, 3}, [2]int{9, 0}, [2]int{11, 8})},
		{[]api.Job{job(1, 8, 2), job(7, 1, 2), job(7, 1, 8)}, 1, []int{7}, stepsOf([2]int{0, 2}, [2]int{2, 3}, [2]int{9, 0}, [2]int{11, 8})},
		{[]api.Job{job(1, 8, 2), job(7, 2, 2), job(7, 1, 8)}, 5, []int{7}, stepsOf([2]int{0, 1}, [2]int{2, 3}, [2]int{9, 0}, [2]int{11, 8})},
		// The second one alone is of the choice, the first one is laid.
		{[]api.Job{job(1, 8, 2), job(7, 1, 2), job(7, 2, 8), job(8, 1, 1), job(9, 3, 6)}, 5, []int{7, 7}, stepsOf([2]int{0, 1}, [2]int{2, 3}, [2]int{9, 0}, [2]int{11, 8})},
		{[]api.Job{job(1, 8, 2), job(7, 2, 2), job(8, 2, 2), job(7, 1, 8)}, 5, []int{7}, stepsOf([2]int{0, 1}, [2]int{2, 3}, [2]int{9, 0}, [2]int{11, 8})},
		// One ahead of the head, and the head, have this Id.
		{[]api.Job{job(7, 1, 1), job(7, 8, 2), job(7, 2, 5)}, 5, []int{7, 7}, stepsOf([2]int{0, 0}, [2]int{1, 1}, [2]int{5, 3}, [2]int{9, 0}, [2]int{11, 8})},
	} {
		plan, left, e := Pass(s, 0, c.jobs, api.Ahead{K: c.k, Head: true})
		if e != api.OK || !slices.Equal(plan.Starts, c.starts) || len(plan.Promises) != 1 || plan.Promises[0].At != 9 || !slices.Equal(left, c.left) {
			t.Errorf("Pass(%v, 0, %v, %d) = %v, %v, %d; want %v, %v", s, c.jobs, c.k, plan, left, e, c.starts, c.left)
		}
		samePass(t, s, 0, c.jobs, aheads(1, 2, 3, 4, mostK)...)
	}
}

// Lo1: steps that may not be, with anything beside them: ErrArg, also ahead of ErrFull.
func TestWrongSteps(t *testing.T) {
	for _, s := range noSteps() {
		for _, now := range append(noNows(), 0, 1, 3, 5, 9, latest) {
			for _, n := range []int{0, 1, mostJobs, mostJobs + 1} {
				refused(t, s, now, many(n, 1, 1), api.ErrArg)
			}
		}
	}
}

// Lo1: now is not 0 to MaxTime, or ahead of the first step: ErrArg, also ahead of ErrFull; at the first step, and at MaxTime, it may be.
func TestWrongNow(t *testing.T) {
	for _, first := range []int{0, 1, 7, longest, latest - 1, latest} {
		s := stepsOf([2]int{first, 4}, [2]int{latest + 5, 2}, [2]int{never, 3})
		for _, now := range append(noNows(), first-1, first-2) {
			for _, n := range []int{0, 1, mostJobs, mostJobs + 1} {
				refused(t, s, now, many(n, 1, 1), api.ErrArg)
			}
		}
		for _, now := range []int{first, min(first+1, latest), latest} {
			samePass(t, s, now, many(3, 2, 1), aheads(1, 2, mostK)...)
		}
	}
}

// Lo1: K is 1 to 32: ErrArg, with a head asked for or not, with a head or none, or no job at all; but 16's Check comes first.
func TestWrongK(t *testing.T) {
	s := stepsOf([2]int{3, 4}, [2]int{9, 6})
	lists := [][]api.Job{nil, jobsOf([2]int{1, 1}), jobsOf([2]int{6, 1}), jobsOf([2]int{6, 1}, [2]int{2, 2}), jobsOf([2]int{7, 1}), noJobs()[:20], many(mostJobs, 5, 5)}
	for _, jobs := range lists {
		for _, x := range aheads(noKs()...) {
			notLooked(t, s, 5, jobs, x, api.ErrArg)
			notLooked(t, s, 5, many(mostJobs+1, 1, 1), x, api.ErrFull)
		}
		for k := 1; k <= mostK; k++ {
			samePass(t, s, 5, jobs, aheads(k)...)
		}
	}
}

// Lo1: no more than K jobs are looked at: those that have room, as they stand; 32 at most.
func TestManyLooked(t *testing.T) {
	s := stepsOf([2]int{0, 60}, [2]int{9, 70})
	jobs := slices.Concat(jobsOf([2]int{70, 1}), many(40, 1, 2))
	for n := range jobs {
		jobs[n].Id = n
	}
	// One that has no room is not looked at.
	full := slices.Insert(slices.Clone(jobs), 3, api.Job{Id: 90, Width: 61, Est: 1}, api.Job{Id: 91, Width: 70, Est: 1}, api.Job{Id: 92, Width: 1, Est: 10}, api.Job{Id: 93})
	for k := 1; k <= mostK; k++ {
		var want []int
		for n := 1; n <= k; n++ {
			want = append(want, n)
		}
		for _, l := range [][]api.Job{jobs, full} {
			plan, _, e := Pass(s, 0, l, api.Ahead{K: k, Head: true})
			if e != api.OK || !samePlan(plan, api.Plan{Starts: want, Promises: promisesOf([2]int{0, 9})}) {
				t.Errorf("%d of %d are looked at: %v, %d", k, len(l), plan, e)
			}
		}
		samePass(t, s, 0, full, aheads(k)...)
	}
}

// Lo1: 100 jobs may be, more may not: each counts, also one that may not be, and one whose Id another one has.
func TestManyJobs(t *testing.T) {
	s := stepsOf([2]int{3, 1}, [2]int{8, 2})
	same := slices.Repeat([]api.Job{{Id: 7, Width: 2, Est: 3}}, mostJobs+1)
	none := make([]api.Job, mostJobs+1)
	for _, l := range [][]api.Job{many(mostJobs+1, 1, 9), same, none} {
		for _, n := range []int{0, 1, 2, mostJobs - 1, mostJobs} {
			samePass(t, s, 5, l[:n], aheads(1, 7, mostK)...)
		}
		refused(t, s, 5, l, api.ErrFull)
		refused(t, s, 5, slices.Repeat(l, 9), api.ErrFull)
	}
	// The last one of 100 is the head, and is started.
	wide := many(mostJobs, greatest, 1)
	if head, ids, _ := Behind(stepsOf([2]int{0, 5}), 0, append(slices.Clone(wide[:mostJobs-1]), api.Job{Id: 5, Width: 6, Est: 1})); head != mostJobs || len(ids) != 0 {
		t.Errorf("none has a shadow: %d, %v", head, ids)
	}
	if head, ids, _ := Behind(stepsOf([2]int{0, 5}, [2]int{9, 6}), 0, append(slices.Clone(wide[:mostJobs-1]), api.Job{Id: 5, Width: 6, Est: 1})); head != mostJobs-1 || len(ids) != 0 {
		t.Errorf("the last one is the head: %d, %v", head, ids)
	}
	plan, _, e := Pass(stepsOf([2]int{0, 5}, [2]int{9, 6}), 0, slices.Concat(jobsOf([2]int{6, 1}), wide[:mostJobs-2], []api.Job{{Id: 500, Width: 5, Est: 9}}), api.Ahead{K: 1, Head: true})
	if e != api.OK || !samePlan(plan, api.Plan{Starts: []int{500}, Promises: promisesOf([2]int{1, 9})}) {
		t.Errorf("the last one starts: %v, %d", plan, e)
	}
}

// Lo1: jobs that may not be by Width or Est have neither room nor a shadow: they are no head, and are not looked at, without an error.
func TestWrongJobs(t *testing.T) {
	wrong := noJobs()
	good := jobsOf([2]int{greatest, 2}, [2]int{1, 1}, [2]int{2, 9}, [2]int{3, 4})
	for n := range good {
		good[n].Id += 10
	}
	for _, s := range [][]api.Step{stepsOf([2]int{0, greatest}), stepsOf([2]int{0, 0}), stepsOf([2]int{0, 4}, [2]int{9, greatest}), stepsOf([2]int{0, greatest}, [2]int{9, 0})} {
		for _, now := range []int{0, 3, 9, latest} {
			head, ids, left := Behind(s, now, wrong)
			if head != len(wrong) || len(ids) != 0 || !slices.Equal(left, s) {
				t.Errorf("Behind(%v, %d, wrong ones) = %d, %v, %v", s, now, head, ids, left)
			}
			for _, x := range aheads(1, mostK) {
				plan, left, e := Pass(s, now, wrong, x)
				if e != api.OK || !samePlan(plan, api.Plan{}) || !slices.Equal(left, s) {
					t.Errorf("Pass(%v, %d, wrong ones, %v) = %v, %v, %d", s, now, x, plan, left, e)
				}
			}
			samePass(t, s, now, slices.Concat(wrong, good), aheads(1, 2, mostK)...)
			samePass(t, s, now, slices.Concat(wrong[:9], good[:1], wrong[9:], good[1:]), aheads(1, 2, mostK)...)
		}
	}
	s := stepsOf([2]int{0, 4}, [2]int{9, greatest})
	plan, _, e := Pass(s, 2, slices.Concat(wrong[:30], good[:1], wrong[30:], good[1:]), api.Ahead{K: 2, Head: true})
	if e != api.OK || !samePlan(plan, api.Plan{Starts: []int{12, 14}, Promises: promisesOf([2]int{11, 9})}) {
		t.Errorf("among wrong ones: %v, %d", plan, e)
	}
}

// Lo1: jobs are looked at as they stand, by Width and Est alone; Ids may be any.
func TestOtherFields(t *testing.T) {
	s := stepsOf([2]int{0, 3}, [2]int{6, 7})
	odd := []api.Job{
		{Id: 0, User: "bob", Width: 1, Est: 4, Prio: 1, Sub: 90, State: api.JobDone, Start: 4, End: 5},
		{Id: -1, Width: 7, Est: 4, Prio: -5, Sub: -9, State: 77, Start: 40, End: 2},
		{Id: math.MinInt, Width: 1, Est: 1, Sub: latest},
		{Id: math.MaxInt, User: "bob", Width: 1, Est: 4, Prio: 9, Sub: 8, State: api.JobHeld},
	}
	plan, left, e := Pass(s, 1, odd, api.Ahead{K: 2, Head: true})
	if e != api.OK || !samePlan(plan, api.Plan{Starts: []int{0, math.MinInt, math.MaxInt}, Promises: promisesOf([2]int{-1, 6})}) || !slices.Equal(left, stepsOf([2]int{0, 3}, [2]int{1, 0}, [2]int{2, 1}, [2]int{5, 3}, [2]int{6, 0}, [2]int{10, 7})) {
		t.Errorf("%v, %v, %d", plan, left, e)
	}
	slices.Reverse(odd)
	plan, left, e = Pass(s, 1, odd, api.Ahead{K: 1})
	if e != api.OK || !samePlan(plan, api.Plan{Starts: []int{math.MaxInt, math.MinInt, 0}}) || !slices.Equal(left, stepsOf([2]int{0, 3}, [2]int{1, 0}, [2]int{2, 1}, [2]int{5, 3}, [2]int{6, 7})) {
		t.Errorf("turned round: %v, %v, %d", plan, left, e)
	}
}

// Lo1: all lists of a head and three small jobs by small steps, by definition.
func TestSmallByDefinition(t *testing.T) {
	var kinds []api.Job
	for _, width := range []int{1, 2, 3} {
		kinds = append(kinds, api.Job{Id: 10 * width, Width: width, Est: 1}, api.Job{Id: 10*width + 1, Width: width, Est: 3})
	}
	kinds = append(kinds, api.Job{Id: 40, Width: 5, Est: 2})
	for _, s := range some([]int{1, 2, 4}, 0, 2, 3, 5) {
		for now := 1; now <= 3; now++ {
			for _, a := range kinds {
				for _, b := range kinds {
					for _, c := range kinds {
						samePass(t, s, now, []api.Job{a, b, c}, aheads(1, 2)...)
						samePass(t, s, now, []api.Job{{Id: 50, Width: 5, Est: 1}, a, b, c}, aheads(1, 2, 3)...)
					}
				}
			}
		}
	}
}

// Lo1: steps at the last times, and of the most that may be free, with jobs at edges, by definition.
func TestEndsByDefinition(t *testing.T) {
	var kinds []api.Job
	for n, width := range []int{1, greatest - 1, greatest} {
		kinds = append(kinds, api.Job{Id: 10 * n, Width: width, Est: 1}, api.Job{Id: 10*n + 1, Width: width, Est: 2}, api.Job{Id: 10*n + 2, Width: width, Est: longest})
	}
	l := some([]int{0, longest, latest, latest + 1}, 0, 1, greatest)
	l = append(l, some([]int{latest - 1, latest, latest + longest, never}, 0, greatest-1, greatest)...)
	for _, s := range l {
		for _, now := range []int{0, longest - 1, latest - longest, latest - 1, latest} {
			if now < s[0].At {
				continue
			}
			for _, a := range kinds {
				for _, b := range kinds {
					samePass(t, s, now, []api.Job{a, b, a}, aheads(1, mostK)...)
				}
			}
		}
	}
}

// Lo1: a job is long if it ends behind the head's time, and not if it ends at it; without a promised head none is, also at the last times.
func TestLongOrNot(t *testing.T) {
	for _, now := range []int{0, 5, latest - longest, latest - 2, latest - 1} {
		for _, ends := range []int{1, 2, 7, longest} {
			at := now + ends
			if at > latest {
				continue
			}
			s := stepsOf([2]int{now, 2}, [2]int{at, 3})
			for _, est := range []int{ends - 1, ends, ends + 1, longest} {
				if est < 1 || est > longest {
					continue
				}
				jobs := jobsOf([2]int{3, 1}, [2]int{2, est})
				plan, _, e := Pass(s, now, jobs, api.Ahead{K: 1, Head: true})
				var starts []int
				if est <= ends {
					starts = []int{2}
				}
				if e != api.OK || !samePlan(plan, api.Plan{Starts: starts, Promises: promisesOf([2]int{1, at})}) {
					t.Errorf("from %d on for %d times ahead of %d: %v, %d", now, est, at, plan, e)
				}
				plan, _, e = Pass(s, now, jobs, api.Ahead{K: 1})
				if e != api.OK || !samePlan(plan, api.Plan{Starts: []int{2}}) {
					t.Errorf("from %d on for %d times: %v, %d", now, est, plan, e)
				}
				samePass(t, s, now, jobs, aheads(1, 2)...)
			}
		}
	}
}

// Lo1: longer lists by longer steps, also at the last times, by definition.
func TestMixedByDefinition(t *testing.T) {
	heads, chosen := 0, 0
	for seed := range 500 {
		next := mixed(seed)
		s, now, jobs := mixedCase(seed, next(60))
		if next(2) == 0 {
			widest := []int{4, 20, greatest}[next(3)]
			first := []int{0, 7, latest - 30, latest}[next(4)]
			s = mixedSteps(next, first, 1+next(9), widest)
			now = min(first+next(30), latest)
			jobs = mixedJobs(next, 1+next(30), 1+next(widest), 1+next(25))
		}
		samePass(t, s, now, jobs, aheads(1, 2, 3, 5, 9, mostK)...)
		place, ids, _ := meantBehind(s, now, jobs)
		if place < len(jobs) {
			heads++
		}
		if plan, _ := meantPass(s, now, jobs, api.Ahead{K: 9, Head: true}); len(plan.Starts) > len(ids)+2 {
			chosen++
		}
	}
	if heads < 300 || chosen < 40 {
		t.Errorf("%d heads, %d choices of more than 2", heads, chosen)
	}
}

// spots is time by time how many are free, from 0 on, by steps that begin at 0.
func spots(s []api.Step, times int) []int {
	var l []int
	for t := range times {
		l = append(l, freeAt(s, nil, t))
	}
	return l
}

// firstSpot is the first time from now on from which on there is room, looked for time by time; -1, if there is none.
func firstSpot(free []int, now int, j api.Job) int {
	for at := now; at+j.Est <= len(free); at++ {
		if slices.Min(free[at:at+j.Est]) >= j.Width {
			return at
		}
	}
	return -1
}

// put takes processors for as long as a job runs.
func put(free []int, at int, j api.Job) {
	for n := at; n < at+j.Est; n++ {
		free[n] -= j.Width
	}
}

// fullestRow is the places of the fullest row of those looked at, by all of them, each a sum of bits: those of earlier places are tried first.
func fullestRow(looked []api.Job, now, reserved, room, long int) (places []int) {
	most := 0
	for bits := 1<<len(looked) - 1; bits > 0; bits-- {
		all, over := 0, 0
		var row []int
		for n, j := range looked {
			if bits>>(len(looked)-1-n)&1 == 0 {
				continue
			}
			row = append(row, n)
			all += j.Width
			if now+j.Est > reserved {
				over += j.Width
			}
		}
		if all <= room && over <= long && all > most {
			most, places = all, row
		}
	}
	return places
}

// Lo1: passes against a table of times, one by one, and all rows of those looked at: what is left is what the steps tell.
func TestTimeByTime(t *testing.T) {
	const times = 800
	broken := 0
	for seed := range 300 {
		s, now, jobs := mixedCase(seed, 40)
		for n := range jobs {
			jobs[n].Id = n
		}
		x := api.Ahead{K: 1 + seed%9, Head: seed%4 > 0}
		plan, left, e := Pass(s, now, jobs, x)
		free := spots(s, times)
		var want api.Plan
		reserved, long, head := never, greatest, -1
		var looked []api.Job
		for n, j := range jobs {
			at := firstSpot(free, now, j)
			if head < 0 && at == now {
				want.Starts = append(want.Starts, n)
				put(free, now, j)
			} else if head < 0 && at > now {
				head = n
				if x.Head {
					reserved, long = at, free[at]-j.Width
					want.Promises = promisesOf([2]int{n, at})
					put(free, at, j)
				}
			} else if at == now && len(looked) < x.K {
				looked = append(looked, j)
			}
		}
		for _, n := range fullestRow(looked, now, reserved, free[now], long) {
			if firstSpot(free, now, looked[n]) == now {
				want.Starts = append(want.Starts, looked[n].Id)
				put(free, now, looked[n])
			} else {
				broken++
			}
		}
		if e != api.OK || !samePlan(plan, want) || !slices.Equal(spots(left, times), free) {
			t.Fatalf("Pass(%v, %d, %v, %v) = %v, %v, %d; time by time: %v", s, now, jobs, x, plan, left, e, want)
		}
	}
	if broken < 20 {
		t.Errorf("%d of choices had no room", broken)
	}
}

// widths is how wide jobs of Ids are together.
func widths(jobs []api.Job, ids []int) int {
	all := 0
	for _, j := range jobs {
		if slices.Contains(ids, j.Id) {
			all += j.Width
		}
	}
	return all
}

// Lo2: where what is free never falls behind now, the choice is started whole; no other of those looked at that start together, and let the head start when it was promised, are wider.
func TestWholeAndFullest(t *testing.T) {
	full := 0
	for seed := range 250 {
		s, now, jobs := risingCase(seed, 30)
		for _, x := range aheads(1, 4, 8) {
			head, ids, left := Behind(s, now, jobs)
			if head == len(jobs) {
				continue
			}
			plan, _, e := Pass(s, now, jobs, x)
			reserved, long := never, greatest
			if x.Head {
				reserved, long, _ = shadow.Of(left, now, jobs[head])
				left, _ = shadow.Lay(left, reserved, jobs[head])
			}
			var looked []api.Job
			for _, j := range jobs[head+1:] {
				if _, ok := shadow.Lay(left, now, j); ok && len(looked) < x.K {
					looked = append(looked, j)
				}
			}
			want := slices.Clone(ids)
			for _, n := range fullestRow(looked, now, reserved, freeAt(left, nil, now), long) {
				want = append(want, looked[n].Id)
			}
			if e != api.OK || !slices.Equal(plan.Starts, want) {
				t.Fatalf("Pass(%v, %d, %v, %v) = %v, %d; the whole choice: %v", s, now, jobs, x, plan, e, want)
			}
			most := mostTogether(left, now, looked)
			if got := widths(jobs, plan.Starts) - widths(jobs, ids); got != most {
				t.Fatalf("Pass(%v, %d, %v, %v) = %v: %d wide behind the head; could be %d", s, now, jobs, x, plan, got, most)
			}
			if len(want) > len(ids)+1 {
				full++
			}
		}
	}
	if full < 200 {
		t.Errorf("%d choices of more than one", full)
	}
}

// mostTogether is how wide those are together of jobs that may start together, of all rows of them.
func mostTogether(left []api.Step, now int, jobs []api.Job) int {
	if len(jobs) == 0 {
		return 0
	}
	most := mostTogether(left, now, jobs[1:])
	if laid, ok := shadow.Lay(left, now, jobs[0]); ok {
		most = max(most, jobs[0].Width+mostTogether(laid, now, jobs[1:]))
	}
	return most
}

// P2: where what is free never falls behind now, looking at all jobs, it starts no fewer processors than EASY, and promises the head the same.
func TestNoFewerThanEasy(t *testing.T) {
	more := 0
	for seed := range 400 {
		s, now, jobs := risingCase(seed, mostK)
		for _, x := range aheads(mostK) {
			plan, _, e := Pass(s, now, jobs, x)
			other, _, f := easy.Pass(s, now, jobs, x.Head)
			if e != api.OK || f != api.OK || !slices.Equal(plan.Promises, other.Promises) {
				t.Fatalf("Pass(%v, %d, %v, %v) = %v, %d; EASY's: %v, %d", s, now, jobs, x, plan, e, other, f)
			}
			a, b := widths(jobs, plan.Starts), widths(jobs, other.Starts)
			if a < b {
				t.Fatalf("Pass(%v, %d, %v, %v) = %v: %d wide; EASY: %v, %d", s, now, jobs, x, plan, a, other, b)
			}
			if a > b {
				more++
			}
		}
	}
	if more < 20 {
		t.Errorf("%d passes start more than EASY", more)
	}
}

// Lo1: Behind is the front of the pass: what is ahead of the head is started by it too, by whatever look, and what is behind the head does not turn it.
func TestBehindIsFront(t *testing.T) {
	for seed := range 200 {
		s, now, jobs := mixedCase(seed, 30)
		head, ids, left := Behind(s, now, jobs)
		for _, x := range aheads(1, 5, mostK) {
			plan, _, e := Pass(s, now, jobs, x)
			if e != api.OK || len(plan.Starts) < len(ids) || !slices.Equal(plan.Starts[:len(ids)], ids) {
				t.Fatalf("Pass(%v, %d, %v, %v) = %v, %d; Behind: %d, %v", s, now, jobs, x, plan, e, head, ids)
			}
			alone, then, e := Pass(s, now, jobs[:head], x)
			if e != api.OK || !samePlan(alone, api.Plan{Starts: ids}) || !slices.Equal(then, left) {
				t.Fatalf("Pass(%v, %d, %v, %v) = %v, %v, %d; Behind: %v, %v", s, now, jobs[:head], x, alone, then, e, ids, left)
			}
		}
		for n := head + 1; n <= len(jobs); n++ {
			again, same, then := Behind(s, now, jobs[:n])
			if again != head || !slices.Equal(same, ids) || !slices.Equal(then, left) {
				t.Fatalf("Behind(%v, %d, %v) = %d, %v, %v; of all: %d, %v, %v", s, now, jobs[:n], again, same, then, head, ids, left)
			}
		}
	}
}

// Lo1: the head's promise stands beside those that start behind it: lifted again, the head has no room earlier.
func TestPromiseStands(t *testing.T) {
	promised := 0
	for seed := range 300 {
		s, now, jobs := mixedCase(seed, 40)
		head, _, _ := Behind(s, now, jobs)
		plan, left, e := Pass(s, now, jobs, api.Ahead{K: 1 + seed%mostK, Head: true})
		if head == len(jobs) {
			continue
		}
		promised++
		at := plan.Promises[0].At
		lifted, ok := shadow.Lift(left, at, jobs[head])
		again, _, is := shadow.Of(lifted, now, jobs[head])
		if e != api.OK || len(plan.Promises) != 1 || plan.Promises[0] != (api.Promise{Id: jobs[head].Id, At: at}) || at <= now || !ok || !is || again != at {
			t.Fatalf("Pass(%v, %d, %v) = %v, %v, %d; lifted: %v, %d", s, now, jobs, plan, left, e, lifted, again)
		}
	}
	if promised < 150 {
		t.Errorf("%d promises", promised)
	}
}

// R3: nothing is written to what is handed in, and answers are new memory, also where nothing is laid.
func TestNewMemory(t *testing.T) {
	s := stepsOf([2]int{4, 3}, [2]int{9, 8}, [2]int{12, 1})
	jobs := jobsOf([2]int{1, 20}, [2]int{2, 5}, [2]int{8, 2}, [2]int{1, 1}, [2]int{1, 2}, [2]int{9, 9})
	wasS, wasJobs := slices.Clone(s), slices.Clone(jobs)
	room := stepsOf([2]int{4, 5}, [2]int{30, 8})
	for _, x := range aheads(1, 5) {
		pass := func(l []api.Job) (api.Plan, []api.Step) {
			plan, left, _ := Pass(s[:2], 5, l, x)
			return plan, left
		}
		_, ids, front := Behind(s[:2], 5, jobs[:5])
		_, _, whole := Behind(s[:2], 5, jobs[5:])
		_, left := pass(jobs[:5])
		_, none := pass(jobs[5:])
		_, empty := pass(nil)
		for n, l := range [][]api.Step{front, whole, left, none, empty} {
			if len(l) == 0 {
				t.Fatalf("nothing from call %d", n)
			}
			l[0].Free = 50
			_ = append(l, api.Step{At: 51})
		}
		ids[0] = 50
		plan, _, _ := Pass(room, 5, jobs[:5], x)
		want := api.Plan{Starts: slices.Clone(plan.Starts), Promises: slices.Clone(plan.Promises)}
		_ = append(plan.Starts, 51)
		plan.Starts[0] = 50
		if x.Head {
			plan.Promises[0].At = 50
		}
		again, _, _ := Pass(room, 5, jobs[:5], x)
		if len(want.Starts) < 3 || !samePlan(again, want) || !slices.Equal(s, wasS) || !slices.Equal(jobs, wasJobs) || !slices.Equal(room, stepsOf([2]int{4, 5}, [2]int{30, 8})) {
			t.Errorf("turned: %v, %v, %v, %v", again, s, jobs, room)
		}
	}
}

// Lo1 of any steps, times, jobs and looks: go test -run xxx -fuzz=FuzzPasses ./los.
func FuzzPasses(f *testing.F) {
	f.Add([]byte{5, 9, 8}, []byte{4, 5, 3, 5, 2, 5}, 0, 0, 8, 2, 5, true)
	f.Add([]byte{255, 1, 254, 2, 255}, []byte{255, 255, 0, 0, 128, 3}, latest-3, latest, greatest, longest, mostK, false)
	f.Add([]byte{4}, []byte{1, 1}, 0, -5, math.MinInt, math.MaxInt, math.MinInt, true)
	f.Fuzz(func(t *testing.T, turns, some []byte, first, now, width, est, k int, head bool) {
		// What is free, and behind it how long it stays so, in turn.
		var s []api.Step
		from := first
		for n, b := range turns {
			if n%2 == 1 {
				from += 1 + int(b)
			} else if len(s) == 0 || s[len(s)-1].Free != int(b) {
				s = append(s, api.Step{At: from, Free: int(b)})
			}
		}
		jobs := []api.Job{{Id: 1, Width: width, Est: est}}
		for n := 1; n < len(some); n += 2 {
			jobs = append(jobs, api.Job{Id: n % 17, Width: int(some[n-1]), Est: int(int8(some[n]))})
		}
		x := api.Ahead{K: k, Head: head}
		if len(s) == 0 || first < 0 || first > latest || now < first || now > latest {
			refused(t, s, now, jobs, api.ErrArg)
		} else if len(jobs) > mostJobs {
			refused(t, s, now, jobs, api.ErrFull)
		} else if k < 1 || k > mostK {
			notLooked(t, s, now, jobs, x, api.ErrArg)
		} else if len(s) < 100 {
			samePass(t, s, now, jobs, x)
		}
	})
}
