package slack

import (
	"math"
	"slices"
	"testing"

	"stint/api"
	"stint/shadow"
)

const (
	greatest = 256
	latest   = api.MaxTime
	longest  = api.MaxEst
	never    = api.Never
	mostJobs = 100
)

// noSteps are steps that may not be.
func noSteps() [][]api.Step {
	return [][]api.Step{
		nil, {}, {{At: -1, Free: 4}}, {{At: latest + 1, Free: 4}}, {{At: math.MinInt, Free: 4}}, {{At: math.MaxInt, Free: 4}}, {{At: 0, Free: -1}}, {{At: 0, Free: greatest + 1}}, {{At: 0, Free: math.MaxInt}},
		{{At: 0, Free: 4}, {At: 0, Free: 5}}, {{At: 0, Free: 4}, {At: 5, Free: 4}}, {{At: 3, Free: 4}, {At: 2, Free: 5}}, {{At: 0, Free: 4}, {At: -1, Free: 5}},
		{{At: 0, Free: 4}, {At: 5, Free: 6}, {At: never + 1, Free: 4}}, {{At: 0, Free: 4}, {At: 5, Free: 6}, {At: 9, Free: -1}}, {{At: 0, Free: 4}, {At: 5, Free: 6}, {At: 9, Free: greatest + 1}}, {{At: 0, Free: 4}, {At: 5, Free: 6}, {At: 9, Free: 6}},
	}
}

// noNows are times that are none, by whatever steps.
func noNows() []int {
	return []int{math.MinInt, -latest, -2, -1, latest + 1, never - 1, never, never + 1, math.MaxInt}
}

// noJobs are jobs that may not be by their Width or Est, or by both.
func noJobs() []api.Job {
	l := []api.Job{{}, {Id: 1}}
	for _, width := range []int{math.MinInt, -greatest, -1, 0, greatest + 1, 1 << 32, 1<<32 + 1, math.MaxInt} {
		l = append(l, api.Job{Id: 2, Width: width, Est: 1}, api.Job{Id: 3, Width: width, Est: longest}, api.Job{Id: 4, Width: width})
	}
	for _, est := range []int{math.MinInt, -longest, -1, 0, longest + 1, latest, never, math.MaxInt} {
		l = append(l, api.Job{Id: 5, Width: 1, Est: est}, api.Job{Id: 6, Width: greatest, Est: est}, api.Job{Id: 7, Est: est})
	}
	return l
}

// jobsOf are jobs of Ids from 1 on, of widths and lengths, by pairs.
func jobsOf(pairs ...[2]int) []api.Job {
	var l []api.Job
	for n, p := range pairs {
		l = append(l, api.Job{Id: n + 1, Width: p[0], Est: p[1]})
	}
	return l
}

// many is so many jobs of Ids from 1 on, of a width and a length.
func many(n, width, est int) []api.Job {
	var l []api.Job
	for id := 1; id <= n; id++ {
		l = append(l, api.Job{Id: id, Width: width, Est: est})
	}
	return l
}

// stepsOf are steps of times and how many are free, by pairs.
func stepsOf(pairs ...[2]int) []api.Step {
	var l []api.Step
	for _, p := range pairs {
		l = append(l, api.Step{At: p[0], Free: p[1]})
	}
	return l
}

// promisesOf are promises of Ids, times and slacks.
func promisesOf(threes ...[3]int) []api.Promise {
	var l []api.Promise
	for _, p := range threes {
		l = append(l, api.Promise{Id: p[0], At: p[1], Slack: p[2]})
	}
	return l
}

// manyPromised is so many promises of Ids from 1 on, of a time and a slack.
func manyPromised(n, at, slack int) []api.Promise {
	var l []api.Promise
	for id := 1; id <= n; id++ {
		l = append(l, api.Promise{Id: id, At: at, Slack: slack})
	}
	return l
}

// noLedgers are promises that are no ledger, at a time from 2 to MaxTime less 2, of jobs of which some have the Ids 1 and 2, and none 3.
func noLedgers(now int) [][]api.Promise {
	var l [][]api.Promise
	for _, at := range []int{math.MinInt, -never, -latest, -1, 0, now - 2, now - 1, latest + 1, latest + 2, never, math.MaxInt} {
		l = append(l, promisesOf([3]int{1, at, 0}), promisesOf([3]int{1, at, latest}), promisesOf([3]int{2, now, 5}, [3]int{1, at, 5}), promisesOf([3]int{2, at, 5}, [3]int{1, now, 5}))
	}
	for _, slack := range []int{math.MinInt, -latest, -2, -1, latest + 1, latest + 2, never, math.MaxInt} {
		l = append(l, promisesOf([3]int{1, now, slack}), promisesOf([3]int{1, latest, slack}), promisesOf([3]int{2, now, 5}, [3]int{1, now + 1, slack}), promisesOf([3]int{2, now, slack}, [3]int{1, now, 5}))
	}
	for _, id := range []int{math.MinInt, -1, 0, 3, 1 << 32, 1<<32 + 1, math.MaxInt} {
		l = append(l, promisesOf([3]int{id, now, 5}), promisesOf([3]int{2, now, 5}, [3]int{id, now, 5}), promisesOf([3]int{id, now, 5}, [3]int{2, now, 5}))
	}
	return append(l, promisesOf([3]int{1, now, 5}, [3]int{1, now, 5}), promisesOf([3]int{1, now, 5}, [3]int{1, now + 1, 6}), promisesOf([3]int{1, now, 5}, [3]int{2, now, 5}, [3]int{1, now, 0}), promisesOf([3]int{1, now, 5}, [3]int{2, now, 5}, [3]int{2, now, 5}))
}

// freeAt is by definition how many are free at a time, by steps and what is taken beside them.
func freeAt(s []api.Step, taken []api.Busy, t int) int {
	free := 0
	for _, a := range s {
		if a.At <= t {
			free = a.Free
		}
	}
	for _, b := range taken {
		if b.From <= t && t < b.To {
			free -= b.Width
		}
	}
	return free
}

// turns are the times at which something may turn, and this one, rising.
func turns(s []api.Step, taken []api.Busy, at int) []int {
	l := []int{at}
	for _, a := range s {
		l = append(l, a.At)
	}
	for _, b := range taken {
		l = append(l, b.From, b.To)
	}
	slices.Sort(l)
	return slices.Compact(l)
}

// mayRun tells by definition whether a job may have room anywhere.
func mayRun(j api.Job) bool {
	return 1 <= j.Width && j.Width <= greatest && 1 <= j.Est && j.Est <= longest
}

// meantShadow is by definition the least time from now on from which a job has room, and whether there is one: room that is not there ahead of a time begins where something turns.
func meantShadow(s []api.Step, taken []api.Busy, now int, j api.Job) (int, bool) {
	if !mayRun(j) {
		return 0, false
	}
	l := turns(s, taken, now)
	// Ahead of at there is no room that goes on up to where is looked.
	at, is := now, false
	for n, t := range l {
		if t < now {
			continue
		}
		if is && t-at >= j.Est {
			return at, true
		}
		if freeAt(s, taken, t) < j.Width {
			is = false
		} else if !is {
			at, is = t, true
		}
		if is && at > latest {
			return 0, false
		}
		if is && n == len(l)-1 {
			return at, true
		}
	}
	return 0, false
}

// run is what a job takes that is laid from a time on.
func run(at int, j api.Job) api.Busy {
	return api.Busy{From: at, To: at + j.Est, Width: j.Width}
}

// meantLedger tells by definition whether promises are a ledger.
func meantLedger(now int, jobs []api.Job, l []api.Promise) bool {
	ids := map[int]int{}
	for _, j := range jobs {
		ids[j.Id] = 1
	}
	for _, p := range l {
		// What was there once is there no more: Ids are unlike.
		if ids[p.Id] == 0 || p.At < now || p.At > latest || p.Slack < 0 || p.Slack > latest {
			return false
		}
		ids[p.Id] = 0
	}
	return len(l) <= mostJobs
}

// firstOf is by definition the first job of an Id.
func firstOf(jobs []api.Job, id int) api.Job {
	for _, j := range jobs {
		if j.Id == id {
			return j
		}
	}
	return api.Job{}
}

// meantTrial is by definition what the other promises are, and whether the trial of an Id's promise is taken.
func meantTrial(s []api.Step, taken []api.Busy, now int, jobs []api.Job, l []api.Promise, id int) ([]api.Promise, bool) {
	own := firstOf(jobs, id)
	at, ok := meantShadow(s, taken, now, own)
	if !ok || at != now {
		return nil, false
	}
	taken = append(slices.Clone(taken), run(now, own))
	var others []api.Promise
	for _, p := range l {
		if p.Id == id {
			continue
		}
		j := firstOf(jobs, p.Id)
		at, ok := meantShadow(s, taken, p.At, j)
		if !ok || at > p.At+p.Slack {
			return nil, false
		}
		taken = append(taken, run(at, j))
		others = append(others, api.Promise{Id: p.Id, At: at, Slack: p.At + p.Slack - at})
	}
	return others, true
}

// meantPass is Pass by definition, of what it takes: the plan, and what those take that are started.
func meantPass(s []api.Step, now int, jobs []api.Job, l []api.Promise) (api.Plan, []api.Busy) {
	plan := api.Plan{Promises: l}
	var taken []api.Busy
	for _, p := range l {
		if others, ok := meantTrial(s, taken, now, jobs, plan.Promises, p.Id); ok {
			plan.Starts = append(plan.Starts, p.Id)
			plan.Promises = others
			taken = append(taken, run(now, firstOf(jobs, p.Id)))
		}
	}
	return plan, taken
}

// stepsThen is by definition the steps with what is taken.
func stepsThen(s []api.Step, taken []api.Busy) []api.Step {
	var l []api.Step
	for _, t := range turns(s, taken, s[0].At) {
		free := freeAt(s, taken, t)
		if len(l) == 0 || l[len(l)-1].Free != free {
			l = append(l, api.Step{At: t, Free: free})
		}
	}
	return l
}

// samePlan tells whether plans are alike.
func samePlan(a, b api.Plan) bool {
	return slices.Equal(a.Starts, b.Starts) && slices.Equal(a.Promises, b.Promises)
}

// idsOf are the Ids of promises.
func idsOf(l []api.Promise) []int {
	var ids []int
	for _, p := range l {
		ids = append(ids, p.Id)
	}
	return ids
}

// samePass tells what is wrong with passes and trials of what 16's Check takes, and a ledger.
func samePass(t *testing.T, s []api.Step, now int, jobs []api.Job, l []api.Promise) {
	t.Helper()
	if !Check(now, jobs, l) {
		t.Fatalf("Check(%d, %v, %v) = false", now, jobs, l)
	}
	for _, id := range append(idsOf(l), -7, 0, 1, 1000) {
		want, is := []api.Promise(nil), false
		if slices.Contains(idsOf(l), id) {
			want, is = meantTrial(s, nil, now, jobs, l, id)
		}
		if others, ok := Try(s, now, jobs, l, id); ok != is || !slices.Equal(others, want) {
			t.Fatalf("Try(%v, %d, %v, %v, %d) = %v, %t; meant: %v, %t", s, now, jobs, l, id, others, ok, want, is)
		}
	}
	plan, left, e := Pass(s, now, jobs, l)
	want, taken := meantPass(s, now, jobs, l)
	if then := stepsThen(s, taken); e != api.OK || !samePlan(plan, want) || !slices.Equal(left, then) {
		t.Fatalf("Pass(%v, %d, %v, %v) = %v, %v, %d; meant: %v, %v", s, now, jobs, l, plan, left, e, want, then)
	}
}

// refused tells what is wrong with a pass, and trials, that have an error.
func refused(t *testing.T, s []api.Step, now int, jobs []api.Job, l []api.Promise, want api.Errno) {
	t.Helper()
	plan, left, e := Pass(s, now, jobs, l)
	if e != want || len(plan.Starts) != 0 || len(plan.Promises) != 0 || len(left) != 0 {
		t.Errorf("Pass(%v, %d, %d jobs, %v) = %v, %v, %d; want %d", s, now, len(jobs), l, plan, left, e, want)
	}
	for _, id := range append(idsOf(l), 0, 1, 2, 3) {
		if others, ok := Try(s, now, jobs, l, id); ok || len(others) != 0 {
			t.Errorf("Try(%v, %d, %d jobs, %v, %d) = %v, %t; want nothing", s, now, len(jobs), l, id, others, ok)
		}
	}
}

// some are all steps that begin at the first of these times and have others at some of the rest.
func some(times []int, frees ...int) [][]api.Step {
	var all [][]api.Step
	for _, free := range frees {
		all = append(all, []api.Step{{At: times[0], Free: free}})
	}
	for _, at := range times[1:] {
		for _, s := range slices.Clone(all) {
			for _, free := range frees {
				if free != s[len(s)-1].Free {
					all = append(all, append(slices.Clone(s), api.Step{At: at, Free: free}))
				}
			}
		}
	}
	return all
}

// mixed is numbers that follow a rule, each below what is asked.
func mixed(seed int) func(below int) int {
	x := uint64(seed)*2654435761 + 12345
	return func(below int) int {
		x ^= x << 13
		x ^= x >> 7
		x ^= x << 17
		return int(x >> 1 % uint64(below))
	}
}

// mixedSteps are some steps from a time on, of so many free at most.
func mixedSteps(next func(below int) int, first, most, widest int) []api.Step {
	var s []api.Step
	at := first
	for range most {
		if free := next(widest + 1); len(s) == 0 || s[len(s)-1].Free != free {
			s = append(s, api.Step{At: at, Free: free})
		}
		at += 1 + next(6)
	}
	return s
}

// mixedJobs are some jobs, of which some Ids are alike.
func mixedJobs(next func(below int) int, n, widest, longest int) []api.Job {
	var l []api.Job
	for range n {
		l = append(l, api.Job{Id: 1 + next(n*2), User: "ann", Width: 1 + next(widest), Est: 1 + next(longest), Prio: next(9), Sub: next(50), State: api.JobQueued})
	}
	return l
}

// caseOf are mixed steps, a time, jobs and a ledger of some of them: of times at which they would have room one behind the other, or of any.
func caseOf(seed, n int) (s []api.Step, now int, jobs []api.Job, l []api.Promise) {
	next := mixed(seed)
	widest := 3 + next(20)
	s = append(mixedSteps(next, 0, 1+next(8), widest), api.Step{At: 60, Free: widest + 1})
	now = next(20)
	jobs = mixedJobs(next, next(n), 1+widest/(1+next(3)), 15)
	loose, grace := next(4) == 0, next(3)*next(100)
	left := s
	for _, j := range jobs {
		if next(5) == 0 || slices.Contains(idsOf(l), j.Id) {
			continue
		}
		// One that is promised in turn stands where it has room; it was promised ahead, when less was free, so it may come earlier.
		at, _, _ := shadow.Of(left, now+next(9), j)
		left, _ = shadow.Lay(left, at, j)
		if loose {
			at = now + next(30)
		}
		l = append(l, api.Promise{Id: j.Id, At: at, Slack: grace/2 + next(1+grace)})
	}
	return s, now, jobs, l
}

// Sl2: the document's examples, and others by hand: what starts, what is left of the promises, and of what is free.
func TestByHand(t *testing.T) {
	rises := stepsOf([2]int{0, 3}, [2]int{4, 8})
	given := jobsOf([2]int{7, 9}, [2]int{2, 6})
	begun := stepsOf([2]int{0, 1}, [2]int{4, 6}, [2]int{6, 8})
	four := stepsOf([2]int{0, 4})
	turn := jobsOf([2]int{4, 2}, [2]int{4, 3}, [2]int{4, 4})
	used := jobsOf([2]int{8, 10}, [2]int{1, 7}, [2]int{1, 8}, [2]int{1, 11})
	dip := stepsOf([2]int{0, 4}, [2]int{10, 2}, [2]int{20, 4})
	falls := jobsOf([2]int{1, 1}, [2]int{3, 5})
	last := stepsOf([2]int{0, 2}, [2]int{latest, 3})
	for _, c := range []struct {
		s        []api.Step
		now      int
		jobs     []api.Job
		l        []api.Promise
		starts   []int
		promises []api.Promise
		left     []api.Step
	}{
		{rises, 0, given, promisesOf([3]int{1, 4, 5}, [3]int{2, 13, 0}), []int{2}, promisesOf([3]int{1, 6, 3}), begun},
		{rises, 0, given, promisesOf([3]int{2, 13, 0}, [3]int{1, 4, 5}), []int{2}, promisesOf([3]int{1, 6, 3}), begun},
		{rises, 0, given, promisesOf([3]int{1, 4, 2}, [3]int{2, 13, 0}), []int{2}, promisesOf([3]int{1, 6, 0}), begun},
		{rises, 0, given, promisesOf([3]int{1, 4, 1}, [3]int{2, 13, 9}), nil, promisesOf([3]int{1, 4, 1}, [3]int{2, 13, 9}), rises},
		// Without slack none gives way, but what delays none starts.
		{rises, 0, given, promisesOf([3]int{1, 4, 0}, [3]int{2, 13, 0}), nil, promisesOf([3]int{1, 4, 0}, [3]int{2, 13, 0}), rises},
		{rises, 0, given, promisesOf([3]int{1, 6, 0}, [3]int{2, 13, 0}), []int{2}, promisesOf([3]int{1, 6, 0}), begun},
		{rises, 0, jobsOf([2]int{7, 9}, [2]int{2, 4}, [2]int{1, 9}), promisesOf([3]int{1, 4, 0}, [3]int{2, 13, 0}, [3]int{3, 4, 0}), []int{2, 3}, promisesOf([3]int{1, 4, 0}), stepsOf([2]int{0, 0}, [2]int{4, 7}, [2]int{9, 8})},
		// As they stand: the first one that may start starts, and the others are laid as they stand.
		{four, 0, turn, promisesOf([3]int{1, 0, 9}, [3]int{2, 0, 9}, [3]int{3, 0, 9}), []int{1}, promisesOf([3]int{2, 2, 7}, [3]int{3, 5, 4}), stepsOf([2]int{0, 0}, [2]int{2, 4})},
		{four, 0, turn, promisesOf([3]int{3, 0, 9}, [3]int{1, 0, 9}, [3]int{2, 0, 9}), []int{3}, promisesOf([3]int{1, 4, 5}, [3]int{2, 6, 3}), stepsOf([2]int{0, 0}, [2]int{4, 4})},
		{four, 0, turn, promisesOf([3]int{1, 0, 9}, [3]int{2, 0, 1}, [3]int{3, 0, 9}), []int{2}, promisesOf([3]int{1, 3, 6}, [3]int{3, 5, 4}), stepsOf([2]int{0, 0}, [2]int{3, 4})},
		{four, 0, turn, promisesOf([3]int{1, 0, 9}, [3]int{2, 0, 1}, [3]int{3, 0, 4}), nil, promisesOf([3]int{1, 0, 9}, [3]int{2, 0, 1}, [3]int{3, 0, 4}), four},
		// The slack is used up by and by.
		{rises, 0, used, promisesOf([3]int{1, 4, 5}, [3]int{2, 30, 0}, [3]int{3, 30, 0}, [3]int{4, 30, 0}), []int{2, 3}, promisesOf([3]int{1, 8, 1}, [3]int{4, 30, 0}), stepsOf([2]int{0, 1}, [2]int{4, 6}, [2]int{7, 7}, [2]int{8, 8})},
		{rises, 0, used, promisesOf([3]int{1, 4, 7}, [3]int{2, 30, 0}, [3]int{3, 30, 0}, [3]int{4, 30, 0}), []int{2, 3, 4}, promisesOf([3]int{1, 11, 0}), stepsOf([2]int{0, 0}, [2]int{4, 5}, [2]int{7, 6}, [2]int{8, 7}, [2]int{11, 8})},
		{rises, 0, used, promisesOf([3]int{1, 4, 3}, [3]int{4, 30, 0}, [3]int{3, 30, 0}, [3]int{2, 30, 0}), []int{2}, promisesOf([3]int{1, 7, 0}, [3]int{4, 30, 0}, [3]int{3, 30, 0}), stepsOf([2]int{0, 2}, [2]int{4, 7}, [2]int{7, 8})},
		// All start, in turn, also those that are promised to start now; jobs that are not promised do not.
		{four, 3, jobsOf([2]int{1, 9}, [2]int{2, 5}, [2]int{1, 1}, [2]int{1, 1}), promisesOf([3]int{3, 3, 0}, [3]int{2, 8, 0}, [3]int{1, 90, 2}), []int{3, 2, 1}, nil, stepsOf([2]int{0, 4}, [2]int{3, 0}, [2]int{4, 1}, [2]int{8, 3}, [2]int{12, 4})},
		// What waits does not come earlier, though it has room.
		{stepsOf([2]int{0, 8}, [2]int{3, 7}, [2]int{4, 8}), 0, jobsOf([2]int{1, 1}, [2]int{8, 5}), promisesOf([3]int{1, 0, 0}, [3]int{2, 50, 7}), []int{1}, promisesOf([3]int{2, 50, 7}), stepsOf([2]int{0, 7}, [2]int{1, 8}, [2]int{3, 7}, [2]int{4, 8})},
		// One has no room at its time, whoever starts: it must give way, or none starts but itself.
		{dip, 0, falls, promisesOf([3]int{1, 0, 0}, [3]int{2, 8, 12}), []int{1, 2}, nil, stepsOf([2]int{0, 0}, [2]int{1, 1}, [2]int{5, 4}, [2]int{10, 2}, [2]int{20, 4})},
		{dip, 7, falls, promisesOf([3]int{1, 7, 0}, [3]int{2, 8, 12}), []int{1}, promisesOf([3]int{2, 20, 0}), stepsOf([2]int{0, 4}, [2]int{7, 3}, [2]int{8, 4}, [2]int{10, 2}, [2]int{20, 4})},
		{dip, 7, falls, promisesOf([3]int{1, 7, 0}, [3]int{2, 8, 11}), nil, promisesOf([3]int{1, 7, 0}, [3]int{2, 8, 11}), dip},
		{dip, 0, falls, promisesOf([3]int{1, 0, 0}, [3]int{2, 8, 11}), []int{2}, promisesOf([3]int{1, 0, 0}), stepsOf([2]int{0, 1}, [2]int{5, 4}, [2]int{10, 2}, [2]int{20, 4})},
		{four, 0, jobsOf([2]int{1, 1}, [2]int{5, 1}), promisesOf([3]int{1, 0, latest}, [3]int{2, 8, latest}), nil, promisesOf([3]int{1, 0, latest}, [3]int{2, 8, latest}), four},
		// The last times: behind MaxTime there is none, by whatever slack.
		{last, latest - 1, jobsOf([2]int{3, longest}, [2]int{2, 1}), promisesOf([3]int{1, latest, latest}, [3]int{2, latest, 0}), []int{2}, promisesOf([3]int{1, latest, latest}), stepsOf([2]int{0, 2}, [2]int{latest - 1, 0}, [2]int{latest, 3})},
		{last, latest - 1, jobsOf([2]int{3, longest}, [2]int{2, 2}), promisesOf([3]int{1, latest, latest}, [3]int{2, latest, 0}), nil, promisesOf([3]int{1, latest, latest}, [3]int{2, latest, 0}), last},
		{last, latest - 2, jobsOf([2]int{2, longest}, [2]int{1, 1}), promisesOf([3]int{1, latest - 2, 1}, [3]int{2, latest, 0}), []int{1}, promisesOf([3]int{2, latest, 0}), stepsOf([2]int{0, 2}, [2]int{latest - 2, 0}, [2]int{latest, 1}, [2]int{latest + longest - 2, 3})},
		{last, latest - 2, jobsOf([2]int{2, longest}, [2]int{1, 1}), promisesOf([3]int{2, latest, 0}, [3]int{1, latest - 2, 1}), []int{2}, promisesOf([3]int{1, latest - 1, 0}), stepsOf([2]int{0, 2}, [2]int{latest - 2, 1}, [2]int{latest - 1, 2}, [2]int{latest, 3})},
		// Nothing is promised: nothing is laid.
		{rises, 4, given, nil, nil, nil, rises}, {dip, latest, nil, nil, nil, nil, dip}, {stepsOf([2]int{0, 0}), 0, []api.Job{}, []api.Promise{}, nil, nil, stepsOf([2]int{0, 0})},
	} {
		plan, left, e := Pass(c.s, c.now, c.jobs, c.l)
		if e != api.OK || !samePlan(plan, api.Plan{Starts: c.starts, Promises: c.promises}) || !slices.Equal(left, c.left) {
			t.Errorf("Pass(%v, %d, %v, %v) = %v, %v, %d; want %v, %v, %v", c.s, c.now, c.jobs, c.l, plan, left, e, c.starts, c.promises, c.left)
		}
		samePass(t, c.s, c.now, c.jobs, c.l)
	}
}

// Sl1: Try by hand: the other promises, as they stand, of the trial of one.
func TestTryByHand(t *testing.T) {
	rises := stepsOf([2]int{0, 3}, [2]int{4, 8})
	given := jobsOf([2]int{7, 9}, [2]int{2, 6})
	four := stepsOf([2]int{0, 4})
	turn := jobsOf([2]int{4, 2}, [2]int{4, 3}, [2]int{4, 4})
	ledger := promisesOf([3]int{3, 0, 9}, [3]int{1, 0, 9}, [3]int{2, 0, 9})
	for _, c := range []struct {
		s    []api.Step
		now  int
		jobs []api.Job
		l    []api.Promise
		id   int
		want []api.Promise
		ok   bool
	}{
		{rises, 0, given, promisesOf([3]int{1, 4, 1}, [3]int{2, 13, 0}), 2, nil, false},
		{rises, 0, given, promisesOf([3]int{1, 4, 2}, [3]int{2, 13, 0}), 2, promisesOf([3]int{1, 6, 0}), true},
		{rises, 0, given, promisesOf([3]int{1, 4, 5}, [3]int{2, 13, 0}), 2, promisesOf([3]int{1, 6, 3}), true},
		{rises, 0, given, promisesOf([3]int{1, 4, 5}, [3]int{2, 13, 0}), 1, nil, false},
		{rises, 4, given, promisesOf([3]int{1, 4, 5}, [3]int{2, 13, 0}), 1, promisesOf([3]int{2, 13, 0}), true},
		{rises, 4, given, promisesOf([3]int{1, 4, 5}, [3]int{2, 9, 3}), 1, nil, false},
		{rises, 4, given, promisesOf([3]int{1, 4, 5}, [3]int{2, 9, 4}), 1, promisesOf([3]int{2, 13, 0}), true},
		{four, 0, turn, ledger, 1, promisesOf([3]int{3, 2, 7}, [3]int{2, 6, 3}), true},
		{four, 0, turn, ledger, 2, promisesOf([3]int{3, 3, 6}, [3]int{1, 7, 2}), true},
		{four, 0, turn, ledger, 3, promisesOf([3]int{1, 4, 5}, [3]int{2, 6, 3}), true},
		// None is promised, though there is a job; or there is none at all.
		{four, 0, turn, ledger[:2], 2, nil, false}, {four, 0, turn, ledger, 4, nil, false}, {four, 0, turn, nil, 1, nil, false}, {four, 0, nil, nil, 0, nil, false},
		// It is alone: nothing gives way.
		{four, 0, turn, ledger[1:2], 1, nil, true}, {four, 9, turn, promisesOf([3]int{1, 20, 0}), 1, nil, true}, {rises, 0, turn, promisesOf([3]int{1, 20, 9}), 1, nil, false},
	} {
		got, ok := Try(c.s, c.now, c.jobs, c.l, c.id)
		if ok != c.ok || !slices.Equal(got, c.want) {
			t.Errorf("Try(%v, %d, %v, %v, %d) = %v, %t; want %v, %t", c.s, c.now, c.jobs, c.l, c.id, got, ok, c.want, c.ok)
		}
	}
}

// Sl1: the edges of a ledger: times from now on to MaxTime, slacks of 0 to MaxTime, unlike Ids of jobs that are there, 100 at most, in any order.
func TestCheckByHand(t *testing.T) {
	two := jobsOf([2]int{1, 1}, [2]int{1, 1})
	for _, now := range []int{0, 2, 7, latest - 1, latest} {
		for _, l := range [][]api.Promise{
			nil, {}, promisesOf([3]int{1, now, 0}), promisesOf([3]int{2, now, latest}), promisesOf([3]int{1, latest, latest}), promisesOf([3]int{2, latest, 1}),
			promisesOf([3]int{1, now, 0}, [3]int{2, now, 0}), promisesOf([3]int{2, latest, 3}, [3]int{1, now, 2}), promisesOf([3]int{2, now, 3}, [3]int{1, now, 4}),
		} {
			if !Check(now, two, l) {
				t.Errorf("Check(%d, %v, %v) = false", now, two, l)
			}
		}
	}
	for _, now := range []int{2, 3, 7, longest, latest - 2} {
		for _, jobs := range [][]api.Job{two, nil, {{Id: 2}, {Id: 1}}, append(many(2, 1, 1), many(2, 4, 4)...), {{Id: 1, Width: 1, Est: 1}, {Id: 4}}} {
			for _, l := range noLedgers(now) {
				if Check(now, jobs, l) {
					t.Errorf("Check(%d, %v, %v) = true", now, jobs, l)
				}
			}
		}
	}
	// How wide and how long a job is does not matter, nor how many jobs there are.
	for n, l := range [][]api.Job{many(mostJobs+9, 0, 0), many(mostJobs+9, greatest+1, -1), slices.Repeat(many(mostJobs, 1, 1), 3)} {
		for _, most := range []int{1, mostJobs - 1, mostJobs} {
			if !Check(5, l, manyPromised(most, 5, 0)) {
				t.Errorf("jobs %d, %d promises: false", n, most)
			}
		}
		for _, most := range []int{mostJobs + 1, mostJobs + 9} {
			if Check(5, l, manyPromised(most, 5, 0)) {
				t.Errorf("jobs %d, %d promises: true", n, most)
			}
		}
	}
	for _, ids := range [][2]int{{0, -1}, {math.MinInt, math.MaxInt}, {1, 1 + 1<<32}} {
		jobs := []api.Job{{Id: ids[1]}, {Id: ids[0]}}
		if !Check(1, jobs, promisesOf([3]int{ids[0], 1, 0}, [3]int{ids[1], 1, 0})) || Check(1, jobs[1:], promisesOf([3]int{ids[0], 1, 0}, [3]int{ids[1], 1, 0})) {
			t.Errorf("Ids %v", ids)
		}
	}
	if Check(1, nil, promisesOf([3]int{0, 1, 0})) || Check(1, two, []api.Promise{{}}) || !Check(0, []api.Job{{}}, []api.Promise{{}}) {
		t.Error("the zero promise")
	}
}

// Sl1: all pairs of promises of some Ids, times and slacks, by definition.
func TestCheckByDefinition(t *testing.T) {
	var kinds []api.Promise
	for id := range 4 {
		for _, at := range []int{-1, 0, 1, latest, latest + 1} {
			for _, slack := range []int{-1, 0, latest, latest + 1} {
				kinds = append(kinds, api.Promise{Id: id, At: at, Slack: slack})
			}
		}
	}
	for _, jobs := range [][]api.Job{nil, many(1, 1, 1), many(2, 9, 0), {{Id: 2}, {Id: 0}, {Id: 2}}} {
		for _, now := range []int{-1, 0, 1, 2, latest, latest + 1} {
			for _, a := range kinds {
				for _, b := range kinds {
					l := []api.Promise{a, b}
					if Check(now, jobs, l) != meantLedger(now, jobs, l) || Check(now, jobs, l[:1]) != meantLedger(now, jobs, l[:1]) {
						t.Fatalf("Check(%d, %v, %v) = %t, of the first one %t", now, jobs, l, Check(now, jobs, l), Check(now, jobs, l[:1]))
					}
				}
			}
		}
	}
}

// Sl1, Sl2: what is no ledger: ErrArg of a pass, and no trial is taken, also where the promise that is tried may be; but 16's Check comes first.
func TestWrongLedger(t *testing.T) {
	for _, s := range [][]api.Step{stepsOf([2]int{0, 9}), stepsOf([2]int{2, 0}), stepsOf([2]int{0, 1}, [2]int{latest, 9})} {
		for _, now := range []int{2, 9, latest - 2} {
			for _, l := range noLedgers(now) {
				for _, jobs := range [][]api.Job{many(2, 1, 1), {{Id: 2, Width: 3, Est: 1}, {Id: 1}, {Id: 2, Width: 1, Est: 1}}} {
					refused(t, s, now, jobs, l, api.ErrArg)
				}
				refused(t, s, now, slices.Repeat(many(2, 1, 1), mostJobs), l, api.ErrFull)
			}
			refused(t, s, now, nil, promisesOf([3]int{1, now, 0}), api.ErrArg)
			refused(t, s, now, many(mostJobs, 1, 1), manyPromised(mostJobs+1, now, 0), api.ErrArg)
			refused(t, s, now, many(mostJobs, 1, 1), append(manyPromised(mostJobs, now, 0), api.Promise{Id: mostJobs, At: now}), api.ErrArg)
			refused(t, s, now, many(mostJobs+1, 1, 1), manyPromised(mostJobs+1, now, 0), api.ErrFull)
		}
	}
}

// Sl1, Sl2: steps that may not be, with anything beside them: ErrArg, also ahead of ErrFull.
func TestWrongSteps(t *testing.T) {
	for _, s := range noSteps() {
		for _, now := range append(noNows(), 0, 1, 3, 5, 9, latest) {
			for _, n := range []int{0, 1, mostJobs, mostJobs + 1} {
				refused(t, s, now, many(n, 1, 1), nil, api.ErrArg)
				refused(t, s, now, many(n, 1, 1), manyPromised(min(n, 2), now, 0), api.ErrArg)
			}
		}
	}
}

// Sl1, Sl2: now is not 0 to MaxTime, or ahead of the first step: ErrArg, also ahead of ErrFull; at the first step, and at MaxTime, it may be.
func TestWrongNow(t *testing.T) {
	for _, first := range []int{0, 1, 7, longest, latest - 1, latest} {
		s := stepsOf([2]int{first, 4}, [2]int{latest + 5, 2}, [2]int{never, 3})
		for _, now := range append(noNows(), first-1, first-2) {
			for _, n := range []int{0, 1, mostJobs, mostJobs + 1} {
				refused(t, s, now, many(n, 1, 1), nil, api.ErrArg)
				refused(t, s, now, many(n, 1, 1), manyPromised(min(n, 2), now, 0), api.ErrArg)
				refused(t, s, now, many(n, 1, 1), manyPromised(min(n, 2), latest, 5), api.ErrArg)
			}
		}
		for _, now := range []int{first, min(first+1, latest), latest} {
			samePass(t, s, now, many(3, 2, 1), manyPromised(3, now, 5))
			samePass(t, s, now, many(3, 2, 1), manyPromised(2, latest, 0))
		}
	}
}

// Sl1, Sl2: 100 jobs may be, and 100 promises; more jobs may not: each counts, also one whose Id another one has, and one that is not promised.
func TestManyJobs(t *testing.T) {
	s := stepsOf([2]int{3, 1}, [2]int{8, 2})
	same := slices.Repeat([]api.Job{{Id: 1, Width: 2, Est: 3}}, mostJobs+1)
	for _, l := range [][]api.Job{many(mostJobs+1, 1, 9), same} {
		for _, n := range []int{1, 2, mostJobs - 1, mostJobs} {
			samePass(t, s, 5, l[:n], manyPromised(1, 6, 40))
		}
		refused(t, s, 5, l, nil, api.ErrFull)
		refused(t, s, 5, l, manyPromised(1, 6, 40), api.ErrFull)
		refused(t, s, 5, slices.Repeat(l, 9), manyPromised(1, 6, 40), api.ErrFull)
	}
	all := many(mostJobs, 1, 2)
	for _, n := range []int{mostJobs - 1, mostJobs} {
		plan, left, e := Pass(s, 9, all, manyPromised(n, 9, latest))
		if e != api.OK || !slices.Equal(plan.Starts, []int{1, 2}) || len(plan.Promises) != n-2 || !slices.Equal(left, stepsOf([2]int{3, 1}, [2]int{8, 2}, [2]int{9, 0}, [2]int{11, 2})) {
			t.Errorf("%d promises: %v, %v, %d", n, plan, left, e)
		}
		for k, p := range plan.Promises {
			// Two run at a time, for 2 times; each gives way by and by.
			if at := 11 + k/2*2; p != (api.Promise{Id: k + 3, At: at, Slack: latest - (at - 9)}) {
				t.Errorf("%d promises: %v at %d", n, p, k)
			}
		}
		samePass(t, s, 9, all, manyPromised(n, 9, 1000))
	}
	// The last one of 100 alone starts.
	all[mostJobs-1].Est = 1
	s = stepsOf([2]int{9, 1}, [2]int{10, 0}, [2]int{20, greatest})
	plan, _, e := Pass(s, 9, all, manyPromised(mostJobs, 20, 0))
	if e != api.OK || !samePlan(plan, api.Plan{Starts: []int{mostJobs}, Promises: manyPromised(mostJobs-1, 20, 0)}) {
		t.Errorf("the last one: %v, %d", plan, e)
	}
}

// Sl2: jobs that may not be by Width or Est have no room: they do not start, and nothing is started beside their promise, without an error; where they are not promised, they turn nothing.
func TestWrongJobs(t *testing.T) {
	good := []api.Job{{Id: 20, Width: 1, Est: 1}, {Id: 21, Width: 2, Est: 9}}
	ledger := promisesOf([3]int{20, 9, 0}, [3]int{21, 12, 4})
	for _, s := range [][]api.Step{stepsOf([2]int{0, greatest}), stepsOf([2]int{0, 0}), stepsOf([2]int{0, 4}, [2]int{9, greatest}), stepsOf([2]int{0, greatest}, [2]int{9, 0})} {
		for _, now := range []int{0, 3, 9} {
			for _, wrong := range noJobs() {
				jobs := []api.Job{good[0], wrong, good[1]}
				for n := 0; n <= 2; n++ {
					l := slices.Insert(slices.Clone(ledger), n, api.Promise{Id: wrong.Id, At: 9, Slack: latest})
					plan, left, e := Pass(s, now, jobs, l)
					if e != api.OK || !samePlan(plan, api.Plan{Promises: l}) || !slices.Equal(left, s) {
						t.Errorf("Pass(%v, %d, %v, %v) = %v, %v, %d", s, now, jobs, l, plan, left, e)
					}
					samePass(t, s, now, jobs, l)
				}
				samePass(t, s, now, jobs, ledger)
				samePass(t, s, now, jobs, promisesOf([3]int{wrong.Id, 9, 0}))
			}
		}
	}
}

// Sl1: a promise is of the first job of its Id, whoever has this Id behind it.
func TestSameIds(t *testing.T) {
	s := stepsOf([2]int{0, 3}, [2]int{9, 8})
	job := func(id, width, est int) api.Job { return api.Job{Id: id, Width: width, Est: est} }
	for _, c := range []struct {
		jobs     []api.Job
		l        []api.Promise
		starts   []int
		promises []api.Promise
		left     []api.Step
	}{
		{[]api.Job{job(7, 4, 1), job(7, 2, 5)}, promisesOf([3]int{7, 9, 0}), nil, promisesOf([3]int{7, 9, 0}), s},
		{[]api.Job{job(7, 2, 5), job(7, 4, 1)}, promisesOf([3]int{7, 9, 0}), []int{7}, nil, stepsOf([2]int{0, 1}, [2]int{5, 3}, [2]int{9, 8})},
		{[]api.Job{job(7, 8, 1), job(1, 1, 11), job(7, 2, 5)}, promisesOf([3]int{7, 9, 1}, [3]int{1, 20, 0}), nil, promisesOf([3]int{7, 9, 1}, [3]int{1, 20, 0}), s},
		{[]api.Job{job(7, 8, 1), job(1, 1, 11), job(7, 2, 5)}, promisesOf([3]int{7, 9, 2}, [3]int{1, 20, 0}), []int{1}, promisesOf([3]int{7, 11, 0}), stepsOf([2]int{0, 2}, [2]int{9, 7}, [2]int{11, 8})},
		{[]api.Job{job(7, 0, 1), job(7, 2, 5), job(1, 1, 1)}, promisesOf([3]int{7, 9, 2}, [3]int{1, 20, 0}), nil, promisesOf([3]int{7, 9, 2}, [3]int{1, 20, 0}), s},
	} {
		plan, left, e := Pass(s, 0, c.jobs, c.l)
		if e != api.OK || !samePlan(plan, api.Plan{Starts: c.starts, Promises: c.promises}) || !slices.Equal(left, c.left) {
			t.Errorf("Pass(%v, 0, %v, %v) = %v, %v, %d; want %v, %v, %v", s, c.jobs, c.l, plan, left, e, c.starts, c.promises, c.left)
		}
		samePass(t, s, 0, c.jobs, c.l)
	}
}

// Sl2: jobs count by Id, Width and Est alone, in whatever order they stand; Ids may be any; the ledger's order is the pass's.
func TestOtherFields(t *testing.T) {
	s := stepsOf([2]int{0, 3}, [2]int{6, 7})
	odd := []api.Job{
		{Id: 0, User: "bob", Width: 1, Est: 4, Prio: 1, Sub: 90, State: api.JobDone, Start: 4, End: 5},
		{Id: -1, Width: 7, Est: 4, Prio: -5, Sub: -9, State: 77, Start: 40, End: 2},
		{Id: math.MinInt, Width: 1, Est: 6, Sub: latest},
		{Id: math.MaxInt, User: "bob", Width: 2, Est: 5, Prio: 9, Sub: 8, State: api.JobHeld},
	}
	l := promisesOf([3]int{math.MinInt, 60, 0}, [3]int{-1, 6, 1}, [3]int{math.MaxInt, 20, 0}, [3]int{0, 13, 0})
	for range 2 {
		plan, left, e := Pass(s, 1, odd, l)
		if e != api.OK || !samePlan(plan, api.Plan{Starts: []int{math.MinInt, math.MaxInt}, Promises: promisesOf([3]int{-1, 7, 0}, [3]int{0, 13, 0})}) || !slices.Equal(left, stepsOf([2]int{0, 3}, [2]int{1, 0}, [2]int{6, 6}, [2]int{7, 7})) {
			t.Errorf("%v, %v, %d", plan, left, e)
		}
		slices.Reverse(odd)
	}
	slices.Reverse(l)
	plan, left, e := Pass(s, 1, odd, l)
	if e != api.OK || !samePlan(plan, api.Plan{Starts: []int{0, math.MaxInt}, Promises: promisesOf([3]int{-1, 6, 1}, [3]int{math.MinInt, 60, 0})}) || !slices.Equal(left, stepsOf([2]int{0, 3}, [2]int{1, 0}, [2]int{5, 1}, [2]int{6, 7})) {
		t.Errorf("turned round: %v, %v, %d", plan, left, e)
	}
}

// Sl1, Sl2: all ledgers of three small jobs of some times and slacks by small steps, by definition.
func TestSmallByDefinition(t *testing.T) {
	var kinds []api.Job
	for _, width := range []int{1, 2, 3} {
		kinds = append(kinds, api.Job{Id: 1, Width: width, Est: 1}, api.Job{Id: 1, Width: width, Est: 3})
	}
	var pairs [][2]int
	for at := 1; at <= 3; at++ {
		pairs = append(pairs, [2]int{at, 0}, [2]int{at, 2})
	}
	turn := 0
	for _, s := range some([]int{1, 2, 4}, 0, 2, 3, 5) {
		for _, a := range kinds {
			for _, b := range kinds {
				for _, c := range kinds {
					b.Id, c.Id = 2, 3
					// One of three triples of times and slacks each: all come by turns.
					for range 3 {
						turn++
						p, q, r := pairs[turn%6], pairs[turn/6%6], pairs[turn/36%6]
						samePass(t, s, 1, []api.Job{a, b, c}, promisesOf([3]int{2, q[0], q[1]}, [3]int{1, p[0], p[1]}, [3]int{3, r[0], r[1]}))
					}
				}
			}
		}
	}
}

// Sl1, Sl2: steps at the last times, and of the most that may be free, with jobs, times and slacks at edges, by definition.
func TestEndsByDefinition(t *testing.T) {
	var kinds []api.Job
	for _, width := range []int{1, greatest - 1, greatest} {
		for _, est := range []int{1, 2, longest} {
			kinds = append(kinds, api.Job{Id: 1, Width: width, Est: est})
		}
	}
	l := some([]int{0, longest, latest, latest + 1}, 0, 1, greatest)
	l = append(l, some([]int{latest - 1, latest, latest + longest, never}, 0, greatest-1, greatest)...)
	for _, s := range l {
		for _, now := range []int{0, longest - 1, latest - longest, latest - 1, latest} {
			if now < s[0].At {
				continue
			}
			for _, a := range kinds {
				for _, b := range kinds {
					b.Id = 2
					jobs := []api.Job{a, b}
					for _, at := range []int{now, min(now+1, latest), latest} {
						for _, slack := range []int{0, 1, longest, latest} {
							samePass(t, s, now, jobs, promisesOf([3]int{1, at, slack}, [3]int{2, latest, slack}))
						}
					}
				}
			}
		}
	}
}

// Sl1: a delay of just the slack is taken, and of one more is not, whatever it is, also at the last times.
func TestDelayAndSlack(t *testing.T) {
	for _, now := range []int{0, 5, longest, latest - longest, latest - 2} {
		for _, delay := range []int{1, 2, 7, longest - 1, longest} {
			if now+delay > latest {
				continue
			}
			s := stepsOf([2]int{now, 2})
			jobs := jobsOf([2]int{1, delay}, [2]int{2, 3})
			for _, slack := range []int{0, delay - 1, delay, delay + 1, latest} {
				l := promisesOf([3]int{2, now, slack}, [3]int{1, latest, 0})
				want := promisesOf([3]int{2, now + delay, slack - delay})
				if slack < delay {
					want = nil
				}
				if others, ok := Try(s, now, jobs, l, 1); ok != (slack >= delay) || !slices.Equal(others, want) {
					t.Errorf("Try(%v, %d, %v, %v, 1) = %v, %t; want %v", s, now, jobs, l, others, ok, want)
				}
				samePass(t, s, now, jobs, l)
			}
		}
	}
}

// Sl1, Sl2: longer ledgers by longer steps, also at the last times, by definition.
func TestMixedByDefinition(t *testing.T) {
	started, gave, stayed := 0, 0, 0
	for seed := range 600 {
		next := mixed(seed)
		s, now, jobs, l := caseOf(seed, 40)
		if next(4) == 0 {
			first := []int{0, 7, latest - 30, latest}[next(4)]
			s = mixedSteps(next, first, 1+next(9), 20)
			now = min(first+next(30), latest)
			for n := range l {
				l[n].At = min(now+next(20), latest)
			}
		}
		samePass(t, s, now, jobs, l)
		plan, _ := meantPass(s, now, jobs, l)
		if len(plan.Starts) > 1 && len(plan.Promises) > 0 {
			started++
		}
		for _, p := range plan.Promises {
			if slices.Contains(l, p) {
				stayed++
			} else {
				gave++
			}
		}
	}
	if started < 150 || gave < 500 || stayed < 500 {
		t.Errorf("%d passes start more than one, %d gave way, %d stayed", started, gave, stayed)
	}
}

// spots is time by time how many are free, from 0 on, by steps that begin at 0.
func spots(s []api.Step, times int) []int {
	var l []int
	for t := range times {
		l = append(l, freeAt(s, nil, t))
	}
	return l
}

// firstSpot is the first time from one on from which on there is room, looked for time by time; -1, if there is none.
func firstSpot(free []int, from int, j api.Job) int {
	for at := from; at+j.Est <= len(free); at++ {
		if slices.Min(free[at:at+j.Est]) >= j.Width {
			return at
		}
	}
	return -1
}

// put takes processors for as long as a job runs.
func put(free []int, at int, j api.Job) {
	for n := at; n < at+j.Est; n++ {
		free[n] -= j.Width
	}
}

// Sl2: passes against a table of times, one by one: what is left is what the steps tell.
func TestTimeByTime(t *testing.T) {
	const times = 900
	for seed := range 400 {
		s, now, jobs, l := caseOf(seed, 30)
		plan, left, e := Pass(s, now, jobs, l)
		free := spots(s, times)
		ledger := slices.Clone(l)
		var starts []int
		for _, id := range idsOf(l) {
			tried := slices.Clone(free)
			if firstSpot(tried, now, firstOf(jobs, id)) != now {
				continue
			}
			put(tried, now, firstOf(jobs, id))
			alone := slices.Clone(tried)
			then := slices.DeleteFunc(slices.Clone(ledger), func(p api.Promise) bool { return p.Id == id })
			for n, p := range then {
				then[n].At = firstSpot(tried, p.At, firstOf(jobs, p.Id))
				then[n].Slack -= then[n].At - p.At
				if then[n].At < 0 || then[n].Slack < 0 {
					then = nil
					break
				}
				put(tried, then[n].At, firstOf(jobs, p.Id))
			}
			if then != nil {
				free, ledger, starts = alone, then, append(starts, id)
			}
		}
		if e != api.OK || !samePlan(plan, api.Plan{Starts: starts, Promises: ledger}) || !slices.Equal(spots(left, times), free) {
			t.Fatalf("Pass(%v, %d, %v, %v) = %v, %v, %d; time by time: %v, %v", s, now, jobs, l, plan, left, e, starts, ledger)
		}
	}
}

// Sl3: each promise that is left has by just as much less slack as its time is later, and never less than none; it and what started are all, as they stood.
func TestSlackGivesWay(t *testing.T) {
	for seed := range 500 {
		s, now, jobs, l := caseOf(seed, 40)
		plan, _, e := Pass(s, now, jobs, l)
		ids := idsOf(plan.Promises)
		var starts, left []int
		for _, p := range l {
			n := slices.Index(ids, p.Id)
			if n < 0 {
				starts = append(starts, p.Id)
				continue
			}
			left = append(left, p.Id)
			q := plan.Promises[n]
			if q.At < p.At || q.At > latest || q.Slack < 0 || q.At+q.Slack != p.At+p.Slack {
				t.Fatalf("Pass(%v, %d, %v, %v) = %v, %d: %v was %v", s, now, jobs, l, plan, e, q, p)
			}
		}
		if e != api.OK || !slices.Equal(starts, plan.Starts) || !slices.Equal(left, ids) {
			t.Fatalf("Pass(%v, %d, %v, %v) = %v, %d: all are %v, %v", s, now, jobs, l, plan, e, starts, left)
		}
	}
}

// P3: where something starts, all that is promised then has room together, as it stands, beside what started; what is left is a ledger again.
func TestRoomTogether(t *testing.T) {
	passes := 0
	for seed := range 400 {
		s, now, jobs, l := caseOf(seed, 40)
		plan, left, e := Pass(s, now, jobs, l)
		if e != api.OK || !Check(now, jobs, plan.Promises) {
			t.Fatalf("Pass(%v, %d, %v, %v) = %v, %d", s, now, jobs, l, plan, e)
		}
		for _, id := range plan.Starts {
			lifted, ok := shadow.Lift(left, now, firstOf(jobs, id))
			if !ok {
				t.Fatalf("Pass(%v, %d, %v, %v) = %v, %v: %d is not laid", s, now, jobs, l, plan, left, id)
			}
			left = lifted
		}
		if !slices.Equal(left, s) {
			t.Fatalf("Pass(%v, %d, %v, %v) = %v: lifted %v", s, now, jobs, l, plan, left)
		}
		if len(plan.Starts) == 0 {
			continue
		}
		passes++
		for _, id := range plan.Starts {
			left, _ = shadow.Lay(left, now, firstOf(jobs, id))
		}
		for _, p := range plan.Promises {
			laid, ok := shadow.Lay(left, p.At, firstOf(jobs, p.Id))
			if !ok {
				t.Fatalf("Pass(%v, %d, %v, %v) = %v: no room for %v by %v", s, now, jobs, l, plan, p, left)
			}
			left = laid
		}
	}
	if passes < 200 {
		t.Errorf("%d passes start some", passes)
	}
}

// Sl2: a pass is trials, one behind the other, of the promises as they stood at first, each by what the ones ahead of it left.
func TestPassIsTrials(t *testing.T) {
	for seed := range 300 {
		s, now, jobs, l := caseOf(seed, 30)
		plan, left, e := Pass(s, now, jobs, l)
		then, ledger := s, l
		var starts []int
		for _, p := range l {
			if others, ok := Try(then, now, jobs, ledger, p.Id); ok {
				starts, ledger = append(starts, p.Id), others
				then, _ = shadow.Lay(then, now, firstOf(jobs, p.Id))
			}
		}
		if e != api.OK || !samePlan(plan, api.Plan{Starts: starts, Promises: ledger}) || !slices.Equal(left, then) {
			t.Fatalf("Pass(%v, %d, %v, %v) = %v, %v, %d; trials: %v, %v, %v", s, now, jobs, l, plan, left, e, starts, ledger, then)
		}
	}
}

// Sl2: without slack no promise turns; what starts lets all others have their times.
func TestNoSlack(t *testing.T) {
	passes := 0
	for seed := range 300 {
		s, now, jobs, l := caseOf(seed, 30)
		for n := range l {
			l[n].Slack = 0
		}
		plan, _, e := Pass(s, now, jobs, l)
		want := slices.DeleteFunc(slices.Clone(l), func(p api.Promise) bool { return slices.Contains(plan.Starts, p.Id) })
		if e != api.OK || !slices.Equal(plan.Promises, want) {
			t.Fatalf("Pass(%v, %d, %v, %v) = %v, %d", s, now, jobs, l, plan, e)
		}
		if len(plan.Starts) > 0 && len(want) > 0 {
			passes++
		}
	}
	if passes < 40 {
		t.Errorf("%d passes start some", passes)
	}
}

// R3: nothing is written to what is handed in, and answers are new memory, also where nothing is laid.
func TestNewMemory(t *testing.T) {
	s := stepsOf([2]int{0, 3}, [2]int{4, 8}, [2]int{90, 1})
	jobs := jobsOf([2]int{7, 9}, [2]int{2, 6}, [2]int{8, 2}, [2]int{1, 1})
	l := promisesOf([3]int{1, 4, 5}, [3]int{2, 16, 0}, [3]int{3, 20, 7}, [3]int{4, 50, 0})
	wasS, wasJobs, wasL := slices.Clone(s), slices.Clone(jobs), slices.Clone(l)
	for _, part := range [][]api.Promise{l[:3], l[:1], l[2:3], nil} {
		plan, left, e := Pass(s[:2], 0, jobs[:3], part)
		want, then := api.Plan{Starts: slices.Clone(plan.Starts), Promises: slices.Clone(plan.Promises)}, slices.Clone(left)
		others, ok := Try(s[:2], 0, jobs[:3], l[:3], 2)
		if e != api.OK || len(left) == 0 || !ok || len(others) != 2 {
			t.Fatalf("%v, %v, %d, %v, %t", plan, left, e, others, ok)
		}
		left[0].Free, others[0].At = 50, 50
		_, _, _ = append(left, api.Step{At: 51}), append(others, api.Promise{Id: 51}), append(plan.Promises, api.Promise{Id: 51})
		for n := range plan.Promises {
			plan.Promises[n].At = 50
		}
		for n := range plan.Starts {
			plan.Starts[n] = 50
		}
		again, same, _ := Pass(s[:2], 0, jobs[:3], part)
		if !samePlan(again, want) || !slices.Equal(same, then) || !slices.Equal(s, wasS) || !slices.Equal(jobs, wasJobs) || !slices.Equal(l, wasL) {
			t.Errorf("turned: %v, %v, %v, %v, %v", again, same, s, jobs, l)
		}
	}
}

// Sl1, Sl2 of any steps, times, jobs and promises: go test -run xxx -fuzz=FuzzPasses ./slack.
func FuzzPasses(f *testing.F) {
	f.Add([]byte{3, 3, 8}, []byte{7, 9, 2, 6, 1, 1}, []byte{1, 4, 5, 2, 13, 0}, 0, 0, 3, 0, 0)
	f.Add([]byte{255, 1, 254, 2, 255}, []byte{255, 255, 0, 0, 128, 3}, []byte{2, 0, 255, 1, 3, 4}, latest-3, latest, 1, latest, latest)
	f.Add([]byte{4}, []byte{1, 1}, []byte{1, 0, 0, 1, 0, 0}, 0, -5, math.MinInt, math.MaxInt, math.MinInt)
	f.Fuzz(func(t *testing.T, turns, widths, promised []byte, first, now, id, at, slack int) {
		// What is free, and behind it how long it stays so, in turn.
		var s []api.Step
		from := first
		for n, b := range turns {
			if n%2 == 1 {
				from += 1 + int(b)
			} else if len(s) == 0 || s[len(s)-1].Free != int(b) {
				s = append(s, api.Step{At: from, Free: int(b)})
			}
		}
		var jobs []api.Job
		for n := 1; n < len(widths); n += 2 {
			jobs = append(jobs, api.Job{Id: n/2%17 + 1, Width: int(widths[n-1]), Est: int(int8(widths[n]))})
		}
		var l []api.Promise
		for n := 2; n < len(promised); n += 3 {
			l = append(l, api.Promise{Id: int(promised[n-2]), At: now + int(promised[n-1]), Slack: int(promised[n])})
		}
		l = append(l, api.Promise{Id: id, At: at, Slack: slack})
		if Check(now, jobs, l) != meantLedger(now, jobs, l) {
			t.Fatalf("Check(%d, %v, %v) = %t", now, jobs, l, Check(now, jobs, l))
		}
		if len(s) == 0 || first < 0 || first > latest || now < first || now > latest {
			refused(t, s, now, jobs, l, api.ErrArg)
		} else if len(jobs) > mostJobs {
			refused(t, s, now, jobs, l, api.ErrFull)
		} else if !meantLedger(now, jobs, l) {
			refused(t, s, now, jobs, l, api.ErrArg)
		} else if len(s) < 100 {
			samePass(t, s, now, jobs, l)
		}
	})
}
