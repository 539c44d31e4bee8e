package cons

import (
	"math"
	"slices"
	"testing"

	"stint/api"
	"stint/easy"
	"stint/shadow"
)

const (
	greatest = 256
	latest   = api.MaxTime
	longest  = api.MaxEst
	never    = api.Never
	mostJobs = 100
)

// noSteps are steps that may not be.
func noSteps() [][]api.Step {
	return [][]api.Step{
		nil, {}, {{At: -1, Free: 4}}, {{At: latest + 1, Free: 4}}, {{At: math.MinInt, Free: 4}}, {{At: math.MaxInt, Free: 4}}, {{At: 0, Free: -1}}, {{At: 0, Free: greatest + 1}}, {{At: 0, Free: math.MaxInt}},
		{{At: 0, Free: 4}, {At: 0, Free: 5}}, {{At: 0, Free: 4}, {At: 5, Free: 4}}, {{At: 3, Free: 4}, {At: 2, Free: 5}}, {{At: 0, Free: 4}, {At: -1, Free: 5}},
		{{At: 0, Free: 4}, {At: 5, Free: 6}, {At: never + 1, Free: 4}}, {{At: 0, Free: 4}, {At: 5, Free: 6}, {At: 9, Free: -1}}, {{At: 0, Free: 4}, {At: 5, Free: 6}, {At: 9, Free: greatest + 1}}, {{At: 0, Free: 4}, {At: 5, Free: 6}, {At: 9, Free: 6}},
	}
}

// noNows are times that are none, by whatever steps.
func noNows() []int {
	return []int{math.MinInt, -latest, -2, -1, latest + 1, never - 1, never, never + 1, math.MaxInt}
}

// mosts are how many promises are made at most: none, some, and all of any list that may be.
func mosts() []int {
	return []int{math.MinInt, -latest, -1, 0, 1, 2, 3, 7, mostJobs - 1, mostJobs, mostJobs + 1, never, math.MaxInt}
}

// noJobs are jobs that may not be by their Width or Est, or by both.
func noJobs() []api.Job {
	l := []api.Job{{}, {Id: 1}}
	for _, width := range []int{math.MinInt, -greatest, -1, 0, greatest + 1, 1 << 32, 1<<32 + 1, math.MaxInt} {
		l = append(l, api.Job{Id: 2, Width: width, Est: 1}, api.Job{Id: 3, Width: width, Est: longest}, api.Job{Id: 4, Width: width})
	}
	for _, est := range []int{math.MinInt, -longest, -1, 0, longest + 1, latest, never, math.MaxInt} {
		l = append(l, api.Job{Id: 5, Width: 1, Est: est}, api.Job{Id: 6, Width: greatest, Est: est}, api.Job{Id: 7, Est: est})
	}
	return l
}

// jobsOf are jobs of Ids from 1 on, of widths and lengths, by pairs.
func jobsOf(pairs ...[2]int) []api.Job {
	var l []api.Job
	for n, p := range pairs {
		l = append(l, api.Job{Id: n + 1, Width: p[0], Est: p[1]})
	}
	return l
}

// many is so many jobs of Ids from 1 on, of a width and a length.
func many(n, width, est int) []api.Job {
	var l []api.Job
	for id := 1; id <= n; id++ {
		l = append(l, api.Job{Id: id, Width: width, Est: est})
	}
	return l
}

// stepsOf are steps of times and how many are free, by pairs.
func stepsOf(pairs ...[2]int) []api.Step {
	var l []api.Step
	for _, p := range pairs {
		l = append(l, api.Step{At: p[0], Free: p[1]})
	}
	return l
}

// promisesOf are promises of Ids and times, without slack, by pairs.
func promisesOf(pairs ...[2]int) []api.Promise {
	var l []api.Promise
	for _, p := range pairs {
		l = append(l, api.Promise{Id: p[0], At: p[1], Slack: 0})
	}
	return l
}

// freeAt is by definition how many are free at a time, by steps and what is taken beside them.
func freeAt(s []api.Step, taken []api.Busy, t int) int {
	free := 0
	for _, a := range s {
		if a.At <= t {
			free = a.Free
		}
	}
	for _, b := range taken {
		if b.From <= t && t < b.To {
			free -= b.Width
		}
	}
	return free
}

// turns are the times at which something may turn, and this one, rising.
func turns(s []api.Step, taken []api.Busy, at int) []int {
	l := []int{at}
	for _, a := range s {
		l = append(l, a.At)
	}
	for _, b := range taken {
		l = append(l, b.From, b.To)
	}
	slices.Sort(l)
	return slices.Compact(l)
}

// mayRun tells by definition whether a job may have room anywhere.
func mayRun(j api.Job) bool {
	return 1 <= j.Width && j.Width <= greatest && 1 <= j.Est && j.Est <= longest
}

// meantShadow is by definition the least time from now on from which a job has room, and whether there is one: room that is not there ahead of a time begins where something turns.
func meantShadow(s []api.Step, taken []api.Busy, now int, j api.Job) (int, bool) {
	if !mayRun(j) {
		return 0, false
	}
	l := turns(s, taken, now)
	// Ahead of at there is no room that goes on up to where is looked.
	at, is := now, false
	for n, t := range l {
		if t < now {
			continue
		}
		if is && t-at >= j.Est {
			return at, true
		}
		if freeAt(s, taken, t) < j.Width {
			is = false
		} else if !is {
			at, is = t, true
		}
		if is && at > latest {
			return 0, false
		}
		if is && n == len(l)-1 {
			return at, true
		}
	}
	return 0, false
}

// run is what a job takes that is laid from a time on.
func run(at int, j api.Job) api.Busy {
	return api.Busy{From: at, To: at + j.Est, Width: j.Width}
}

// meantUpto is Upto by definition, of what 16's Check takes: the plan, and what it takes.
func meantUpto(s []api.Step, now int, jobs []api.Job, most int) (api.Plan, []api.Busy) {
	var plan api.Plan
	var taken []api.Busy
	for _, j := range jobs {
		at, ok := meantShadow(s, taken, now, j)
		if ok && at == now {
			plan.Starts = append(plan.Starts, j.Id)
			taken = append(taken, run(now, j))
		} else if ok && most > 0 {
			plan.Promises = append(plan.Promises, api.Promise{Id: j.Id, At: at, Slack: 0})
			taken = append(taken, run(at, j))
			most--
		}
	}
	return plan, taken
}

// stepsThen is by definition the steps with what is taken.
func stepsThen(s []api.Step, taken []api.Busy) []api.Step {
	var l []api.Step
	for _, t := range turns(s, taken, s[0].At) {
		free := freeAt(s, taken, t)
		if len(l) == 0 || l[len(l)-1].Free != free {
			l = append(l, api.Step{At: t, Free: free})
		}
	}
	return l
}

// samePlan tells whether plans are alike.
func samePlan(a, b api.Plan) bool {
	return slices.Equal(a.Starts, b.Starts) && slices.Equal(a.Promises, b.Promises)
}

// samePass tells what is wrong with a pass of what 16's Check takes, with all promises, and with each of so many.
func samePass(t *testing.T, s []api.Step, now int, jobs []api.Job, mosts ...int) {
	t.Helper()
	plan, left, e := Pass(s, now, jobs)
	want, taken := meantUpto(s, now, jobs, math.MaxInt)
	if then := stepsThen(s, taken); e != api.OK || !samePlan(plan, want) || !slices.Equal(left, then) {
		t.Fatalf("Pass(%v, %d, %v) = %v, %v, %d; meant: %v, %v", s, now, jobs, plan, left, e, want, then)
	}
	for _, most := range mosts {
		plan, left, e := Upto(s, now, jobs, most)
		want, taken := meantUpto(s, now, jobs, most)
		if then := stepsThen(s, taken); e != api.OK || !samePlan(plan, want) || !slices.Equal(left, then) {
			t.Fatalf("Upto(%v, %d, %v, %d) = %v, %v, %d; meant: %v, %v", s, now, jobs, most, plan, left, e, want, then)
		}
	}
}

// refused tells what is wrong with passes that have an error.
func refused(t *testing.T, s []api.Step, now int, jobs []api.Job, want api.Errno) {
	t.Helper()
	plan, left, e := Pass(s, now, jobs)
	if e != want || len(plan.Starts) != 0 || len(plan.Promises) != 0 || len(left) != 0 {
		t.Errorf("Pass(%v, %d, %d jobs) = %v, %v, %d; want %d", s, now, len(jobs), plan, left, e, want)
	}
	for _, most := range mosts() {
		plan, left, e := Upto(s, now, jobs, most)
		if e != want || len(plan.Starts) != 0 || len(plan.Promises) != 0 || len(left) != 0 {
			t.Errorf("Upto(%v, %d, %d jobs, %d) = %v, %v, %d; want %d", s, now, len(jobs), most, plan, left, e, want)
		}
	}
}

// some are all steps that begin at the first of these times and have others at some of the rest.
func some(times []int, frees ...int) [][]api.Step {
	var all [][]api.Step
	for _, free := range frees {
		all = append(all, []api.Step{{At: times[0], Free: free}})
	}
	for _, at := range times[1:] {
		for _, s := range slices.Clone(all) {
			for _, free := range frees {
				if free != s[len(s)-1].Free {
					all = append(all, append(slices.Clone(s), api.Step{At: at, Free: free}))
				}
			}
		}
	}
	return all
}

// mixed is numbers that follow a rule, each below what is asked.
func mixed(seed int) func(below int) int {
	x := uint64(seed)*2654435761 + 12345
	return func(below int) int {
		x ^= x << 13
		x ^= x >> 7
		x ^= x << 17
		return int(x >> 1 % uint64(below))
	}
}

// mixedSteps are some steps from a time on, of so many free at most.
func mixedSteps(next func(below int) int, first, most, widest int) []api.Step {
	var s []api.Step
	at := first
	for range most {
		if free := next(widest + 1); len(s) == 0 || s[len(s)-1].Free != free {
			s = append(s, api.Step{At: at, Free: free})
		}
		at += 1 + next(6)
	}
	return s
}

// mixedJobs are some jobs, of which some Ids are alike.
func mixedJobs(next func(below int) int, n, widest, longest int) []api.Job {
	var l []api.Job
	for range n {
		l = append(l, api.Job{Id: 1 + next(n*2), User: "ann", Width: 1 + next(widest), Est: 1 + next(longest), Prio: next(9), Sub: next(50), State: api.JobQueued})
	}
	return l
}

// mixedCase is steps in which all jobs but the widest ones have a shadow, a time, and jobs.
func mixedCase(seed, n int) (s []api.Step, now int, jobs []api.Job) {
	next := mixed(seed)
	widest := 2 + next(12)
	s = append(mixedSteps(next, 0, 1+next(8), widest), api.Step{At: 60, Free: widest + 1})
	return s, next(20), mixedJobs(next, n, widest+2, 15)
}

// Cs1: a few passes by hand: each job that can't start is promised, if it has a shadow.
func TestByHand(t *testing.T) {
	rises := stepsOf([2]int{0, 3}, [2]int{9, 8})
	dips := stepsOf([2]int{2, 4}, [2]int{5, 1}, [2]int{8, 4})
	holes := stepsOf([2]int{0, 2}, [2]int{3, 4}, [2]int{6, 2}, [2]int{9, 8})
	for _, c := range []struct {
		s        []api.Step
		now      int
		jobs     []api.Job
		starts   []int
		promises []api.Promise
		left     []api.Step
	}{
		// One that waits takes its time from those behind it, and one that has no shadow is passed over.
		{rises, 0, jobsOf([2]int{5, 20}, [2]int{2, 5}, [2]int{6, 10}, [2]int{9, 1}, [2]int{4, 3}), []int{2}, promisesOf([2]int{1, 9}, [2]int{3, 29}, [2]int{5, 39}), stepsOf([2]int{0, 1}, [2]int{5, 3}, [2]int{29, 2}, [2]int{39, 4}, [2]int{42, 8})},
		{dips, 2, jobsOf([2]int{4, 4}, [2]int{2, 4}, [2]int{3, 3}, [2]int{1, 7}, [2]int{1, 6}), []int{3, 5}, promisesOf([2]int{1, 8}, [2]int{2, 12}, [2]int{4, 12}), stepsOf([2]int{2, 0}, [2]int{12, 1}, [2]int{16, 3}, [2]int{19, 4})},
		// One behind may be promised an earlier time: promises stand as the jobs do, not by their times.
		{holes, 0, jobsOf([2]int{6, 5}, [2]int{3, 3}, [2]int{2, 3}, [2]int{2, 8}, [2]int{1, 1}, [2]int{1, 2}), []int{3}, promisesOf([2]int{1, 9}, [2]int{2, 3}, [2]int{4, 6}, [2]int{5, 3}, [2]int{6, 4}), stepsOf([2]int{0, 0}, [2]int{14, 8})},
		// All start; the steps ahead of now stay.
		{rises, 4, jobsOf([2]int{1, 3}, [2]int{2, 9}), []int{1, 2}, nil, stepsOf([2]int{0, 3}, [2]int{4, 0}, [2]int{7, 1}, [2]int{9, 6}, [2]int{13, 8})},
		// None starts.
		{rises, 8, jobsOf([2]int{8, 2}, [2]int{8, 1}), nil, promisesOf([2]int{1, 9}, [2]int{2, 11}), stepsOf([2]int{0, 3}, [2]int{9, 0}, [2]int{12, 8})},
		// The last times: no job is promised a time behind MaxTime.
		{stepsOf([2]int{0, 0}, [2]int{latest, 3}), latest - 1, jobsOf([2]int{4, 1}, [2]int{3, longest}, [2]int{1, 1}), nil, promisesOf([2]int{2, latest}), stepsOf([2]int{0, 0}, [2]int{latest + longest, 3})},
		{stepsOf([2]int{0, 0}, [2]int{latest, 3}), latest - 1, jobsOf([2]int{2, longest}, [2]int{1, 1}, [2]int{1, 1}), nil, promisesOf([2]int{1, latest}, [2]int{2, latest}), stepsOf([2]int{0, 0}, [2]int{latest + 1, 1}, [2]int{latest + longest, 3})},
		{stepsOf([2]int{0, 3}), latest, jobsOf([2]int{3, 1}, [2]int{1, 1}), []int{1}, nil, stepsOf([2]int{0, 3}, [2]int{latest, 0}, [2]int{latest + 1, 3})},
		{stepsOf([2]int{0, 1}, [2]int{latest + 1, 3}), 5, jobsOf([2]int{2, 1}, [2]int{1, 2}, [2]int{1, 1}), []int{2}, promisesOf([2]int{3, 7}), stepsOf([2]int{0, 1}, [2]int{5, 0}, [2]int{8, 1}, [2]int{latest + 1, 3})},
		{stepsOf([2]int{0, greatest}), 0, jobsOf([2]int{greatest, longest}, [2]int{greatest, 2}, [2]int{1, 1}), []int{1}, promisesOf([2]int{2, longest}, [2]int{3, longest + 2}), stepsOf([2]int{0, 0}, [2]int{longest + 2, greatest - 1}, [2]int{longest + 3, greatest})},
		// Nothing is laid, or there is no job: the steps are as they were.
		{rises, 4, jobsOf([2]int{9, 1}), nil, nil, rises}, {rises, 4, nil, nil, nil, rises}, {dips, latest, []api.Job{}, nil, nil, dips}, {stepsOf([2]int{0, 0}), 0, jobsOf([2]int{1, 1}, [2]int{1, 1}), nil, nil, stepsOf([2]int{0, 0})},
	} {
		want := api.Plan{Starts: c.starts, Promises: c.promises}
		plan, left, e := Pass(c.s, c.now, c.jobs)
		if e != api.OK || !samePlan(plan, want) || !slices.Equal(left, c.left) {
			t.Errorf("Pass(%v, %d, %v) = %v, %v, %d; want %v, %v", c.s, c.now, c.jobs, plan, left, e, want, c.left)
		}
		for _, most := range []int{len(c.promises), len(c.promises) + 1, mostJobs, math.MaxInt} {
			plan, left, e := Upto(c.s, c.now, c.jobs, most)
			if e != api.OK || !samePlan(plan, want) || !slices.Equal(left, c.left) {
				t.Errorf("Upto(%v, %d, %v, %d) = %v, %v, %d; want %v, %v", c.s, c.now, c.jobs, most, plan, left, e, want, c.left)
			}
		}
	}
}

// Cs1: no more than so many promises are made, and behind that jobs are started alone; one that starts, or has no shadow, is not counted.
func TestUptoByHand(t *testing.T) {
	rises := stepsOf([2]int{0, 3}, [2]int{9, 8})
	counted := jobsOf([2]int{5, 20}, [2]int{2, 5}, [2]int{9, 1}, [2]int{6, 10}, [2]int{4, 3})
	// What is promised, or is not, turns what starts behind it.
	turned := jobsOf([2]int{5, 20}, [2]int{6, 4}, [2]int{3, 40}, [2]int{3, 29})
	for _, c := range []struct {
		jobs     []api.Job
		mosts    []int
		starts   []int
		promises []api.Promise
		left     []api.Step
	}{
		{counted, []int{0, -1, -latest, math.MinInt}, []int{2}, nil, stepsOf([2]int{0, 1}, [2]int{5, 3}, [2]int{9, 8})},
		{counted, []int{1}, []int{2}, promisesOf([2]int{1, 9}), stepsOf([2]int{0, 1}, [2]int{5, 3}, [2]int{29, 8})},
		{counted, []int{2}, []int{2}, promisesOf([2]int{1, 9}, [2]int{4, 29}), stepsOf([2]int{0, 1}, [2]int{5, 3}, [2]int{29, 2}, [2]int{39, 8})},
		{counted, []int{3, 4, math.MaxInt}, []int{2}, promisesOf([2]int{1, 9}, [2]int{4, 29}, [2]int{5, 39}), stepsOf([2]int{0, 1}, [2]int{5, 3}, [2]int{29, 2}, [2]int{39, 4}, [2]int{42, 8})},
		{turned, []int{0, -1}, []int{3}, nil, stepsOf([2]int{0, 0}, [2]int{9, 5}, [2]int{40, 8})},
		{turned, []int{1}, []int{3}, promisesOf([2]int{1, 9}), stepsOf([2]int{0, 0}, [2]int{29, 5}, [2]int{40, 8})},
		{turned, []int{2}, []int{4}, promisesOf([2]int{1, 9}, [2]int{2, 29}), stepsOf([2]int{0, 0}, [2]int{29, 2}, [2]int{33, 8})},
		{turned, []int{3, 4, 100}, []int{4}, promisesOf([2]int{1, 9}, [2]int{2, 29}, [2]int{3, 33}), stepsOf([2]int{0, 0}, [2]int{29, 2}, [2]int{33, 5}, [2]int{73, 8})},
		{nil, []int{math.MinInt, -1, 0, 1, math.MaxInt}, nil, nil, rises},
	} {
		for _, most := range c.mosts {
			plan, left, e := Upto(rises, 0, c.jobs, most)
			if e != api.OK || !samePlan(plan, api.Plan{Starts: c.starts, Promises: c.promises}) || !slices.Equal(left, c.left) {
				t.Errorf("Upto(%v, 0, %v, %d) = %v, %v, %d; want %v, %v, %v", rises, c.jobs, most, plan, left, e, c.starts, c.promises, c.left)
			}
		}
	}
}

// Cs1: the document's example: Upto of 1 is EASY's pass with a head; and of none it is that without one.
func TestUptoIsEasy(t *testing.T) {
	heads := 0
	for seed := range 400 {
		s, now, jobs := mixedCase(seed, 30)
		for _, most := range []int{-1, 0, 1} {
			plan, left, e := Upto(s, now, jobs, most)
			want, then, f := easy.Pass(s, now, jobs, most == 1)
			if e != api.OK || f != api.OK || !samePlan(plan, want) || !slices.Equal(left, then) {
				t.Fatalf("Upto(%v, %d, %v, %d) = %v, %v, %d; EASY's: %v, %v, %d", s, now, jobs, most, plan, left, e, want, then, f)
			}
			heads += len(plan.Promises)
		}
	}
	if heads < 300 {
		t.Errorf("%d heads", heads)
	}
}

// Cs1: a pass is 15's chain: what it lays from now on is started, what it lays later is promised.
func TestPassIsChain(t *testing.T) {
	for seed := range 400 {
		s, now, jobs := mixedCase(seed, mostJobs)
		plan, left, e := Pass(s, now, jobs)
		var want api.Plan
		starts, then := shadow.Chain(s, now, jobs)
		for n, at := range starts {
			if at == now {
				want.Starts = append(want.Starts, jobs[n].Id)
			} else if at > now {
				want.Promises = append(want.Promises, api.Promise{Id: jobs[n].Id, At: at})
			}
		}
		if e != api.OK || !samePlan(plan, want) || !slices.Equal(left, then) {
			t.Fatalf("Pass(%v, %d, %v) = %v, %v, %d; a chain: %v, %v", s, now, jobs, plan, left, e, want, then)
		}
	}
}

// Cs1: steps that may not be, with anything beside them: ErrArg, also ahead of ErrFull.
func TestWrongSteps(t *testing.T) {
	for _, s := range noSteps() {
		for _, now := range append(noNows(), 0, 1, 3, 5, 9, latest) {
			for _, n := range []int{0, 1, mostJobs, mostJobs + 1} {
				refused(t, s, now, many(n, 1, 1), api.ErrArg)
			}
		}
	}
}

// Cs1: now is not 0 to MaxTime, or ahead of the first step: ErrArg, also ahead of ErrFull; at the first step, and at MaxTime, it may be.
func TestWrongNow(t *testing.T) {
	for _, first := range []int{0, 1, 7, longest, latest - 1, latest} {
		s := stepsOf([2]int{first, 4}, [2]int{latest + 5, 2}, [2]int{never, 3})
		for _, now := range append(noNows(), first-1, first-2) {
			for _, n := range []int{0, 1, mostJobs, mostJobs + 1} {
				refused(t, s, now, many(n, 1, 1), api.ErrArg)
			}
		}
		for _, now := range []int{first, min(first+1, latest), latest} {
			samePass(t, s, now, many(3, 2, 1), mosts()...)
		}
	}
}

// Cs1: 100 jobs may be, more may not: each counts, also one that may not be, and one whose Id another one has.
func TestManyJobs(t *testing.T) {
	s := stepsOf([2]int{3, 1}, [2]int{8, 2})
	same := slices.Repeat([]api.Job{{Id: 7, Width: 2, Est: 3}}, mostJobs+1)
	none := make([]api.Job, mostJobs+1)
	for _, l := range [][]api.Job{many(mostJobs+1, 1, 9), same, none} {
		for _, n := range []int{0, 1, 2, mostJobs - 1, mostJobs} {
			samePass(t, s, 5, l[:n], mosts()...)
		}
		refused(t, s, 5, l, api.ErrFull)
		refused(t, s, 5, slices.Repeat(l, 9), api.ErrFull)
	}
	for _, most := range []int{0, 1, 50, mostJobs - 1, mostJobs, mostJobs + 1} {
		var want []api.Promise
		for n := range min(most, mostJobs) {
			want = append(want, api.Promise{Id: 7, At: 8 + 3*n})
		}
		plan, _, e := Upto(s, 5, same[:mostJobs], most)
		if e != api.OK || !samePlan(plan, api.Plan{Promises: want}) {
			t.Errorf("%d promises of 100 jobs: %v, %d", most, plan, e)
		}
	}
	plan, _, e := Pass(s, 5, same[:mostJobs])
	if e != api.OK || len(plan.Promises) != mostJobs || plan.Promises[mostJobs-1] != (api.Promise{Id: 7, At: 8 + 3*99}) {
		t.Errorf("100 jobs: %v, %d", plan, e)
	}
}

// Cs1: jobs that may not be by Width or Est have neither room nor a shadow: they are passed over without an error, and are not promised.
func TestWrongJobs(t *testing.T) {
	wrong := noJobs()
	for _, s := range [][]api.Step{stepsOf([2]int{0, greatest}), stepsOf([2]int{0, 0}), stepsOf([2]int{0, 0}, [2]int{9, greatest}), stepsOf([2]int{0, greatest}, [2]int{9, 0})} {
		for _, now := range []int{0, 9, latest} {
			plan, left, e := Pass(s, now, wrong)
			if e != api.OK || !samePlan(plan, api.Plan{}) || !slices.Equal(left, s) {
				t.Errorf("Pass(%v, %d, wrong ones) = %v, %v, %d", s, now, plan, left, e)
			}
			samePass(t, s, now, slices.Concat(wrong, jobsOf([2]int{greatest, 2}, [2]int{1, 1}, [2]int{2, 9}), wrong[:9]), mosts()...)
		}
	}
	plan, _, _ := Upto(stepsOf([2]int{0, 1}, [2]int{9, greatest}), 2, slices.Concat(wrong, jobsOf([2]int{greatest, 2}, [2]int{1, 1}, [2]int{2, 9}, [2]int{2, 1})), 2)
	if !samePlan(plan, api.Plan{Starts: []int{2}, Promises: promisesOf([2]int{1, 9}, [2]int{3, 11})}) {
		t.Errorf("behind wrong ones: %v", plan)
	}
}

// Cs1: jobs are looked at as they stand, by Width and Est alone; each job counts, also one whose Id another one has, and Ids may be any.
func TestOtherFields(t *testing.T) {
	s := stepsOf([2]int{0, 2}, [2]int{6, 7})
	odd := []api.Job{
		{Id: 7, User: "bob", Width: 1, Est: 4, Prio: 1, Sub: 90, State: api.JobDone, Start: 4, End: 5},
		{Id: 7, User: "bob", Width: 1, Est: 4, Prio: 9, Sub: 8, State: api.JobHeld},
		{Id: -1, Width: 7, Est: 4, Prio: -5, Sub: -9, State: 77, Start: 40, End: 2},
		{Id: 7, Width: 7, Est: 4, Prio: 1000},
		{Id: math.MinInt, Width: 1, Est: 1, Sub: latest},
	}
	plan, left, e := Pass(s, 1, odd)
	if e != api.OK || !samePlan(plan, api.Plan{Starts: []int{7, 7}, Promises: promisesOf([2]int{-1, 6}, [2]int{7, 10}, [2]int{math.MinInt, 5})}) || !slices.Equal(left, stepsOf([2]int{0, 2}, [2]int{1, 0}, [2]int{5, 1}, [2]int{6, 0}, [2]int{14, 7})) {
		t.Errorf("%v, %v, %d", plan, left, e)
	}
	slices.Reverse(odd)
	plan, left, e = Pass(s, 1, odd)
	if e != api.OK || !samePlan(plan, api.Plan{Starts: []int{math.MinInt, 7}, Promises: promisesOf([2]int{7, 6}, [2]int{-1, 10}, [2]int{7, 2})}) || !slices.Equal(left, stepsOf([2]int{0, 2}, [2]int{1, 0}, [2]int{5, 1}, [2]int{6, 0}, [2]int{14, 7})) {
		t.Errorf("turned round: %v, %v, %d", plan, left, e)
	}
}

// Cs1: all lists of three small jobs by small steps, by definition.
func TestSmallByDefinition(t *testing.T) {
	var kinds []api.Job
	for _, width := range []int{1, 2, 3} {
		kinds = append(kinds, api.Job{Id: 10 * width, Width: width, Est: 1}, api.Job{Id: 10*width + 1, Width: width, Est: 3})
	}
	kinds = append(kinds, api.Job{Id: 40, Width: 6, Est: 1})
	for _, s := range append(some([]int{0, 1, 3}, 0, 1, 2, 3), some([]int{1, 2, 5}, 0, 2, 5)...) {
		for now := 1; now <= 4; now++ {
			for _, a := range kinds {
				for _, b := range kinds {
					for _, c := range kinds {
						samePass(t, s, now, []api.Job{a, b, c}, 0, 1, 2)
					}
				}
			}
		}
	}
}

// Cs1: steps at the last times, and of the most that may be free, with jobs at edges, by definition.
func TestEndsByDefinition(t *testing.T) {
	var kinds []api.Job
	for n, width := range []int{1, greatest - 1, greatest} {
		kinds = append(kinds, api.Job{Id: 10 * n, Width: width, Est: 1}, api.Job{Id: 10*n + 1, Width: width, Est: 2}, api.Job{Id: 10*n + 2, Width: width, Est: longest})
	}
	l := some([]int{0, longest, latest, latest + 1}, 0, 1, greatest)
	l = append(l, some([]int{latest - 1, latest, latest + longest, never}, 0, greatest-1, greatest)...)
	for _, s := range l {
		for _, now := range []int{0, longest - 1, latest - longest, latest - 1, latest} {
			if now < s[0].At {
				continue
			}
			for _, a := range kinds {
				for _, b := range kinds {
					samePass(t, s, now, []api.Job{a, b, a}, 1, 2)
				}
			}
		}
	}
}

// Cs1: longer lists by longer steps, also at the last times, by definition.
func TestMixedByDefinition(t *testing.T) {
	promised := 0
	for seed := range 400 {
		next := mixed(seed)
		widest := []int{4, 20, greatest}[next(3)]
		first := []int{0, 7, latest - 30, latest}[next(4)]
		s := mixedSteps(next, first, 1+next(9), widest)
		jobs := mixedJobs(next, 1+next(30), 1+next(widest), 1+next(25))
		now := min(first+next(30), latest)
		samePass(t, s, now, jobs, mosts()...)
		if plan, _ := meantUpto(s, now, jobs, math.MaxInt); len(plan.Promises) > 5 {
			promised++
		}
	}
	if promised < 80 {
		t.Errorf("%d passes with more than 5 promises", promised)
	}
}

// spots is time by time how many are free, from 0 on, by steps that begin at 0.
func spots(s []api.Step, times int) []int {
	var l []int
	for t := range times {
		l = append(l, freeAt(s, nil, t))
	}
	return l
}

// firstSpot is the first time from now on from which on there is room, looked for time by time; -1, if there is none.
func firstSpot(free []int, now int, j api.Job) int {
	for at := now; at+j.Est <= len(free); at++ {
		if slices.Min(free[at:at+j.Est]) >= j.Width {
			return at
		}
	}
	return -1
}

// Cs1: passes against a table of times, one by one: each job has what it gets in one behind the other, and none has room earlier; what is left is what the steps tell.
func TestTimeByTime(t *testing.T) {
	const times = 800
	earlier := 0
	for seed := range 200 {
		s, now, jobs := mixedCase(seed, 40)
		for n := range jobs {
			jobs[n].Id = n
		}
		most := []int{mostJobs, 3, 8}[seed%3]
		plan, left, e := Upto(s, now, jobs, most)
		free := spots(s, times)
		var want api.Plan
		for n, j := range jobs {
			at := firstSpot(free, now, j)
			if at == now {
				want.Starts = append(want.Starts, n)
			} else if at > now && len(want.Promises) < most {
				want.Promises = append(want.Promises, api.Promise{Id: n, At: at})
			} else {
				continue
			}
			for k := at; k < at+j.Est; k++ {
				free[k] -= j.Width
			}
		}
		if e != api.OK || !samePlan(plan, want) || !slices.Equal(spots(left, times), free) {
			t.Fatalf("Upto(%v, %d, %v, %d) = %v, %v, %d; time by time: %v", s, now, jobs, most, plan, left, e, want)
		}
		for n := 1; n < len(plan.Promises); n++ {
			if plan.Promises[n].At < plan.Promises[n-1].At {
				earlier++
			}
		}
	}
	if earlier < 100 {
		t.Errorf("%d promises are ahead of the one they stand behind", earlier)
	}
}

// Cs2: what stands behind a job does not turn what it gets, by however many promises.
func TestBehindTurnsNothing(t *testing.T) {
	for seed := range 150 {
		s, now, jobs := mixedCase(seed, 30)
		_, _, others := mixedCase(seed+1000, 30)
		for _, most := range []int{0, 1, 2, 5, mostJobs} {
			whole, _, _ := Upto(s, now, jobs, most)
			for n := range jobs {
				plan, _, e := Upto(s, now, jobs[:n], most)
				starts, promises := len(plan.Starts), len(plan.Promises)
				if e != api.OK || starts > len(whole.Starts) || promises > len(whole.Promises) || !samePlan(plan, api.Plan{Starts: whole.Starts[:starts], Promises: whole.Promises[:promises]}) {
					t.Fatalf("Upto(%v, %d, %v, %d): %v; of the first %d: %v", s, now, jobs, most, whole, n, plan)
				}
				turned, _, _ := Upto(s, now, slices.Concat(jobs[:n], others), most)
				if len(turned.Starts) < starts || len(turned.Promises) < promises || !samePlan(plan, api.Plan{Starts: turned.Starts[:starts], Promises: turned.Promises[:promises]}) {
					t.Fatalf("Upto(%v, %d, %v, %d): %v; with others behind them: %v", s, now, jobs[:n], most, plan, turned)
				}
			}
		}
	}
}

// Cs1: with more promises what one of fewer promised stays promised so: one promise more is made behind those.
func TestMorePromises(t *testing.T) {
	for seed := range 150 {
		s, now, jobs := mixedCase(seed, 40)
		whole, left, _ := Pass(s, now, jobs)
		for most := range len(whole.Promises) + 3 {
			plan, then, e := Upto(s, now, jobs, most)
			if n := min(most, len(whole.Promises)); e != api.OK || !slices.Equal(plan.Promises, whole.Promises[:n]) {
				t.Fatalf("Upto(%v, %d, %v, %d) = %v, %d; Pass: %v", s, now, jobs, most, plan, e, whole)
			}
			if most >= len(whole.Promises) && (!samePlan(plan, whole) || !slices.Equal(then, left)) {
				t.Fatalf("Upto(%v, %d, %v, %d) = %v, %v; Pass: %v, %v", s, now, jobs, most, plan, then, whole, left)
			}
		}
	}
}

// R3: nothing is written to what is handed in, and answers are new memory, also where nothing is laid.
func TestNewMemory(t *testing.T) {
	s := stepsOf([2]int{4, 3}, [2]int{9, 8}, [2]int{12, 1})
	jobs := jobsOf([2]int{1, 20}, [2]int{2, 5}, [2]int{3, 3}, [2]int{9, 9})
	wasS, wasJobs := slices.Clone(s), slices.Clone(jobs)
	for _, most := range []int{-1, 0, 1, mostJobs} {
		pass := func(l []api.Job) (api.Plan, []api.Step) {
			plan, left, _ := Upto(s[:2], 5, l, most)
			if most == mostJobs {
				plan, left, _ = Pass(s[:2], 5, l)
			}
			return plan, left
		}
		plan, left := pass(jobs[:3])
		_, none := pass(jobs[3:])
		_, empty := pass(nil)
		if !slices.Equal(s, wasS) || !slices.Equal(jobs, wasJobs) {
			t.Fatalf("turned: %v, %v", s, jobs)
		}
		for n, l := range [][]api.Step{left, none, empty} {
			if len(l) == 0 {
				t.Fatalf("nothing from call %d", n)
			}
			l[0].Free = 50
			_ = append(l, api.Step{At: 51})
			if !slices.Equal(s, wasS) {
				t.Fatalf("the answer of call %d is shared: %v", n, s)
			}
		}
		plan.Starts[0] = 50
		want := api.Plan{Starts: []int{1, 2}}
		if most > 0 {
			plan.Promises[0].At = 50
			want.Promises = promisesOf([2]int{3, 9})
		}
		if again, _ := pass(jobs[:3]); !samePlan(again, want) || !slices.Equal(jobs, wasJobs) {
			t.Errorf("an answer has turned: %v, %v", again, jobs)
		}
	}
}

// Cs1 of any steps, times, jobs and numbers of promises: go test -run xxx -fuzz=FuzzPasses ./cons.
func FuzzPasses(f *testing.F) {
	f.Add([]byte{3, 9, 8}, []byte{2, 19, 1, 4}, 0, 0, 3, 20, 1)
	f.Add([]byte{255, 1, 254, 2, 255}, []byte{255, 255, 0, 0, 128, 3}, latest-3, latest, greatest, longest, 100)
	f.Add([]byte{4}, []byte{1, 1}, 0, -5, math.MinInt, math.MaxInt, math.MinInt)
	f.Fuzz(func(t *testing.T, turns, some []byte, first, now, width, est, most int) {
		// What is free, and behind it how long it stays so, in turn.
		var s []api.Step
		from := first
		for n, b := range turns {
			if n%2 == 1 {
				from += 1 + int(b)
			} else if len(s) == 0 || s[len(s)-1].Free != int(b) {
				s = append(s, api.Step{At: from, Free: int(b)})
			}
		}
		jobs := []api.Job{{Id: 1, Width: width, Est: est}}
		for n := 1; n < len(some); n += 2 {
			jobs = append(jobs, api.Job{Id: n, Width: int(some[n-1]), Est: int(int8(some[n]))})
		}
		if len(s) == 0 || first < 0 || first > latest || now < first || now > latest {
			refused(t, s, now, jobs, api.ErrArg)
		} else if len(jobs) > mostJobs {
			refused(t, s, now, jobs, api.ErrFull)
		} else if len(s) < 100 {
			samePass(t, s, now, jobs, most)
		}
	})
}
