package sel

import (
	"math"
	"math/big"
	"slices"
	"sort"
	"testing"

	"stint/api"
	"stint/cons"
	"stint/easy"
	"stint/shadow"
)

const (
	greatest = 256
	latest   = api.MaxTime
	longest  = api.MaxEst
	never    = api.Never
	mostJobs = 100
	// mostOver is the greatest number of a threshold that may be.
	mostOver = 1048576
)

// noSteps are steps that may not be.
func noSteps() [][]api.Step {
	return [][]api.Step{
		nil, {}, {{At: -1, Free: 4}}, {{At: latest + 1, Free: 4}}, {{At: math.MinInt, Free: 4}}, {{At: math.MaxInt, Free: 4}}, {{At: 0, Free: -1}}, {{At: 0, Free: greatest + 1}}, {{At: 0, Free: math.MaxInt}},
		{{At: 0, Free: 4}, {At: 0, Free: 5}}, {{At: 0, Free: 4}, {At: 5, Free: 4}}, {{At: 3, Free: 4}, {At: 2, Free: 5}}, {{At: 0, Free: 4}, {At: -1, Free: 5}},
		{{At: 0, Free: 4}, {At: 5, Free: 6}, {At: never + 1, Free: 4}}, {{At: 0, Free: 4}, {At: 5, Free: 6}, {At: 9, Free: -1}}, {{At: 0, Free: 4}, {At: 5, Free: 6}, {At: 9, Free: greatest + 1}}, {{At: 0, Free: 4}, {At: 5, Free: 6}, {At: 9, Free: 6}},
	}
}

// noNows are times that are none, by whatever steps.
func noNows() []int {
	return []int{math.MinInt, -latest, -2, -1, latest + 1, never - 1, never, never + 1, math.MaxInt}
}

// noJobs are jobs that may not be by their Width or Est, or by both.
func noJobs() []api.Job {
	l := []api.Job{{}, {Id: 1}}
	for _, width := range []int{math.MinInt, -greatest, -1, 0, greatest + 1, 1 << 32, 1<<32 + 1, math.MaxInt} {
		l = append(l, api.Job{Id: 2, Width: width, Est: 1}, api.Job{Id: 3, Width: width, Est: longest}, api.Job{Id: 4, Width: width})
	}
	for _, est := range []int{math.MinInt, -longest, -1, 0, longest + 1, latest, never, math.MaxInt} {
		l = append(l, api.Job{Id: 5, Width: 1, Est: est}, api.Job{Id: 6, Width: greatest, Est: est}, api.Job{Id: 7, Est: est})
	}
	return l
}

// jobsOf are jobs of Ids from 1 on, of widths and lengths, by pairs.
func jobsOf(pairs ...[2]int) []api.Job {
	var l []api.Job
	for n, p := range pairs {
		l = append(l, api.Job{Id: n + 1, Width: p[0], Est: p[1]})
	}
	return l
}

// many is so many jobs of Ids from 1 on, of a width and a length.
func many(n, width, est int) []api.Job {
	var l []api.Job
	for id := 1; id <= n; id++ {
		l = append(l, api.Job{Id: id, Width: width, Est: est})
	}
	return l
}

// stepsOf are steps of times and how many are free, by pairs.
func stepsOf(pairs ...[2]int) []api.Step {
	var l []api.Step
	for _, p := range pairs {
		l = append(l, api.Step{At: p[0], Free: p[1]})
	}
	return l
}

// promisesOf are promises of Ids and times, without slack, by pairs.
func promisesOf(pairs ...[2]int) []api.Promise {
	var l []api.Promise
	for _, p := range pairs {
		l = append(l, api.Promise{Id: p[0], At: p[1], Slack: 0})
	}
	return l
}

// freeAt is by definition how many are free at a time, by steps and what is taken beside them.
func freeAt(s []api.Step, taken []api.Busy, t int) int {
	free := 0
	for _, a := range s {
		if a.At <= t {
			free = a.Free
		}
	}
	for _, b := range taken {
		if b.From <= t && t < b.To {
			free -= b.Width
		}
	}
	return free
}

// turns are the times at which something may turn, and this one, rising.
func turns(s []api.Step, taken []api.Busy, at int) []int {
	l := []int{at}
	for _, a := range s {
		l = append(l, a.At)
	}
	for _, b := range taken {
		l = append(l, b.From, b.To)
	}
	slices.Sort(l)
	return slices.Compact(l)
}

// mayRun tells by definition whether a job may have room anywhere.
func mayRun(j api.Job) bool {
	return 1 <= j.Width && j.Width <= greatest && 1 <= j.Est && j.Est <= longest
}

// meantShadow is by definition the least time from now on from which a job has room, and whether there is one: room that is not there ahead of a time begins where something turns.
func meantShadow(s []api.Step, taken []api.Busy, now int, j api.Job) (int, bool) {
	if !mayRun(j) {
		return 0, false
	}
	l := turns(s, taken, now)
	// Ahead of at there is no room that goes on up to where is looked.
	at, is := now, false
	for n, t := range l {
		if t < now {
			continue
		}
		if is && t-at >= j.Est {
			return at, true
		}
		if freeAt(s, taken, t) < j.Width {
			is = false
		} else if !is {
			at, is = t, true
		}
		if is && at > latest {
			return 0, false
		}
		if is && n == len(l)-1 {
			return at, true
		}
	}
	return 0, false
}

// run is what a job takes that is laid from a time on.
func run(at int, j api.Job) api.Busy {
	return api.Busy{From: at, To: at + j.Est, Width: j.Width}
}

// noThresholds are thresholds that may not be.
func noThresholds() []api.Ratio {
	l := []api.Ratio{{}, {Num: -1, Den: 0}, {Num: -1, Den: -1}, {Num: math.MinInt, Den: math.MinInt}, {Num: math.MaxInt, Den: math.MaxInt}}
	for _, num := range []int{math.MinInt, -mostOver, -2, -1, mostOver + 1, longest, 1 << 32, 1<<32 + 1, never, math.MaxInt} {
		l = append(l, api.Ratio{Num: num, Den: 1}, api.Ratio{Num: num, Den: 2}, api.Ratio{Num: num, Den: mostOver})
	}
	for _, den := range []int{math.MinInt, -mostOver, -2, -1, 0, mostOver + 1, longest, 1 << 32, 1<<32 + 1, never, math.MaxInt} {
		l = append(l, api.Ratio{Num: 0, Den: den}, api.Ratio{Num: 1, Den: den}, api.Ratio{Num: 2, Den: den}, api.Ratio{Num: mostOver, Den: den})
	}
	return l
}

// thresholds are some that may be, also of the least and greatest numbers.
func thresholds() []api.Ratio {
	return []api.Ratio{
		{Num: 0, Den: 1}, {Num: 0, Den: mostOver}, {Num: 1, Den: mostOver}, {Num: 1, Den: 2}, {Num: mostOver - 1, Den: mostOver}, {Num: 1, Den: 1}, {Num: mostOver, Den: mostOver},
		{Num: mostOver, Den: mostOver - 1}, {Num: 5, Den: 4}, {Num: 3, Den: 2}, {Num: 2, Den: 1}, {Num: 7, Den: 3}, {Num: 1024, Den: 1}, {Num: 1025, Den: 1}, {Num: 1026, Den: 1}, {Num: mostOver, Den: 1023}, {Num: mostOver - 1, Den: 1}, {Num: mostOver, Den: 1},
	}
}

// noWaits are jobs that may be but for their Est, or Sub.
func noWaits() []api.Job {
	var l []api.Job
	for _, est := range []int{math.MinInt, -longest, -1, 0, longest + 1, latest, never, 1 << 60, math.MaxInt} {
		l = append(l, api.Job{Id: 1, Width: 1, Est: est}, api.Job{Id: 2, Width: 2, Est: est, Sub: 3}, api.Job{Id: 3, Width: 1, Est: est, Sub: latest})
	}
	for _, sub := range []int{math.MinInt, -latest, -5, -1, latest + 1, never, 1 << 60, math.MaxInt} {
		l = append(l, api.Job{Id: 4, Width: 1, Est: 1, Sub: sub}, api.Job{Id: 5, Width: 2, Est: 7, Sub: sub}, api.Job{Id: 6, Width: 1, Est: longest, Sub: sub})
	}
	return l
}

// meantThreshold tells by definition whether a threshold may be.
func meantThreshold(x api.Ratio) bool {
	return x.Num >= 0 && x.Num <= mostOver && x.Den >= 1 && x.Den <= mostOver
}

// meantOver is Over by definition: the fractions are held against each other in full.
func meantOver(j api.Job, now int, x api.Ratio) bool {
	if !meantThreshold(x) || now < 0 || now > latest || j.Est < 1 || j.Est > longest || j.Sub < 0 || j.Sub > latest {
		return false
	}
	wait := max(0, now-j.Sub)
	return big.NewRat(int64(wait+j.Est), int64(j.Est)).Cmp(big.NewRat(int64(x.Num), int64(x.Den))) >= 0
}

// meantSince is Since by definition, found by halves.
func meantSince(j api.Job, x api.Ratio) (int, bool) {
	at := sort.Search(latest+1, func(t int) bool { return meantOver(j, t, x) })
	if at > latest {
		return 0, false
	}
	return at, true
}

// meantPass is Pass by definition, of what it takes: the plan, and what it takes.
func meantPass(s []api.Step, now int, jobs []api.Job, x api.Ratio) (api.Plan, []api.Busy) {
	var plan api.Plan
	var taken []api.Busy
	for _, over := range []bool{true, false} {
		for _, j := range jobs {
			if meantOver(j, now, x) != over {
				continue
			}
			at, ok := meantShadow(s, taken, now, j)
			if ok && at == now {
				plan.Starts = append(plan.Starts, j.Id)
				taken = append(taken, run(now, j))
			} else if ok && over {
				plan.Promises = append(plan.Promises, api.Promise{Id: j.Id, At: at, Slack: 0})
				taken = append(taken, run(at, j))
			}
		}
	}
	return plan, taken
}

// stepsThen is by definition the steps with what is taken.
func stepsThen(s []api.Step, taken []api.Busy) []api.Step {
	var l []api.Step
	for _, t := range turns(s, taken, s[0].At) {
		free := freeAt(s, taken, t)
		if len(l) == 0 || l[len(l)-1].Free != free {
			l = append(l, api.Step{At: t, Free: free})
		}
	}
	return l
}

// samePlan tells whether plans are alike.
func samePlan(a, b api.Plan) bool {
	return slices.Equal(a.Starts, b.Starts) && slices.Equal(a.Promises, b.Promises)
}

// sameWait tells what is wrong with since when a job is over a threshold, and with whether it is so about then.
func sameWait(t *testing.T, j api.Job, x api.Ratio, nows ...int) {
	t.Helper()
	want, is := meantSince(j, x)
	if at, ok := Since(j, x.Num, x.Den); at != want || ok != is {
		t.Fatalf("Since(%v, %d, %d) = %d, %t; meant: %d, %t", j, x.Num, x.Den, at, ok, want, is)
	}
	for _, now := range append(slices.Clone(nows), want-1, want, want+1) {
		if over := Over(j, now, x.Num, x.Den); over != meantOver(j, now, x) {
			t.Fatalf("Over(%v, %d, %d, %d) = %t", j, now, x.Num, x.Den, over)
		}
	}
}

// samePass tells what is wrong with a pass of what it takes.
func samePass(t *testing.T, s []api.Step, now int, jobs []api.Job, x api.Ratio) {
	t.Helper()
	plan, left, e := Pass(s, now, jobs, x)
	want, taken := meantPass(s, now, jobs, x)
	if then := stepsThen(s, taken); e != api.OK || !samePlan(plan, want) || !slices.Equal(left, then) {
		t.Fatalf("Pass(%v, %d, %v, %v) = %v, %v, %d; meant: %v, %v", s, now, jobs, x, plan, left, e, want, then)
	}
}

// refused tells what is wrong with a pass that has an error.
func refused(t *testing.T, s []api.Step, now int, jobs []api.Job, x api.Ratio, want api.Errno) {
	t.Helper()
	plan, left, e := Pass(s, now, jobs, x)
	if e != want || len(plan.Starts) != 0 || len(plan.Promises) != 0 || len(left) != 0 {
		t.Errorf("Pass(%v, %d, %d jobs, %v) = %v, %v, %d; want %d", s, now, len(jobs), x, plan, left, e, want)
	}
}

// came are jobs that came at these times, in turn.
func came(jobs []api.Job, subs ...int) []api.Job {
	l := slices.Clone(jobs)
	for n := range l {
		l[n].Sub = subs[n%len(subs)]
	}
	return l
}

// caseOf are mixed steps, a time, jobs of unlike Ids that came of late, and a threshold that some of them are over.
func caseOf(seed, n int) (s []api.Step, now int, jobs []api.Job, x api.Ratio) {
	next := mixed(seed)
	widest := 2 + next(12)
	s = append(mixedSteps(next, 0, 1+next(8), widest), api.Step{At: 60, Free: widest + 1})
	now = next(40)
	jobs = mixedJobs(next, 1+next(n), widest+2, 15)
	for k := range jobs {
		jobs[k].Id = k
		jobs[k].Sub = next(now + 4)
	}
	den := 1 + next(9)
	return s, now, jobs, api.Ratio{Num: den + next(4*den), Den: den}
}

// overOf are the jobs that are over a threshold, by definition, and the others.
func overOf(now int, jobs []api.Job, x api.Ratio) (over, others []api.Job) {
	for _, j := range jobs {
		if meantOver(j, now, x) {
			over = append(over, j)
		} else {
			others = append(others, j)
		}
	}
	return over, others
}

// some are all steps that begin at the first of these times and have others at some of the rest.
func some(times []int, frees ...int) [][]api.Step {
	var all [][]api.Step
	for _, free := range frees {
		all = append(all, []api.Step{{At: times[0], Free: free}})
	}
	for _, at := range times[1:] {
		for _, s := range slices.Clone(all) {
			for _, free := range frees {
				if free != s[len(s)-1].Free {
					all = append(all, append(slices.Clone(s), api.Step{At: at, Free: free}))
				}
			}
		}
	}
	return all
}

// mixed is numbers that follow a rule, each below what is asked.
func mixed(seed int) func(below int) int {
	x := uint64(seed)*2654435761 + 12345
	return func(below int) int {
		x ^= x << 13
		x ^= x >> 7
		x ^= x << 17
		return int(x >> 1 % uint64(below))
	}
}

// mixedSteps are some steps from a time on, of so many free at most.
func mixedSteps(next func(below int) int, first, most, widest int) []api.Step {
	var s []api.Step
	at := first
	for range most {
		if free := next(widest + 1); len(s) == 0 || s[len(s)-1].Free != free {
			s = append(s, api.Step{At: at, Free: free})
		}
		at += 1 + next(6)
	}
	return s
}

// mixedJobs are some jobs, of which some Ids are alike.
func mixedJobs(next func(below int) int, n, widest, longest int) []api.Job {
	var l []api.Job
	for range n {
		l = append(l, api.Job{Id: 1 + next(n*2), User: "ann", Width: 1 + next(widest), Est: 1 + next(longest), Prio: next(9), Sub: next(50), State: api.JobQueued})
	}
	return l
}

// spots is time by time how many are free, from 0 on, by steps that begin at 0.
func spots(s []api.Step, times int) []int {
	var l []int
	for t := range times {
		l = append(l, freeAt(s, nil, t))
	}
	return l
}

// firstSpot is the first time from now on from which on there is room, looked for time by time; -1, if there is none.
func firstSpot(free []int, now int, j api.Job) int {
	for at := now; at+j.Est <= len(free); at++ {
		if slices.Min(free[at:at+j.Est]) >= j.Width {
			return at
		}
	}
	return -1
}

// Se1: the document's example: by 2 over 1, of an Est of 5, that came at 0, from 5 on.
func TestExample(t *testing.T) {
	j := api.Job{Id: 1, Width: 3, Est: 5}
	if at, ok := Since(j, 2, 1); at != 5 || !ok {
		t.Errorf("Since = %d, %t", at, ok)
	}
	for _, now := range []int{0, 1, 4, 5, 6, 10, longest, latest} {
		if Over(j, now, 2, 1) != (now >= 5) {
			t.Errorf("Over at %d: %t", now, now < 5)
		}
	}
}

// Se1: since when, by hand: what is not whole is one more; nothing behind MaxTime; where no wait is asked for, also ahead of its Sub.
func TestSinceByHand(t *testing.T) {
	for _, c := range []struct{ est, sub, num, den, at int }{
		{5, 7, 2, 1, 12}, {5, 7, 4, 2, 12}, {5, 7, 3, 1, 17}, {5, 0, 3, 2, 3}, {4, 7, 3, 2, 9}, {1, 7, 3, 2, 8}, {1, 0, mostOver, mostOver - 1, 1}, {10, 3, 11, 10, 4}, {10, 3, 101, 100, 4}, {10, 3, 111, 100, 5},
		{5, 7, 1, 1, 0}, {5, 7, 0, 1, 0}, {5, 7, 1, 2, 0}, {5, 0, 9, 9, 0}, {1, latest, 1, 1, 0}, {longest, latest, 0, mostOver, 0}, {longest, latest, mostOver, mostOver, 0},
		{1, 0, mostOver, 1, mostOver - 1}, {1, latest - mostOver + 1, mostOver, 1, latest}, {1, latest - mostOver + 2, mostOver, 1, -1},
		{longest, 0, 1024, 1, latest - longest}, {longest, 0, 1025, 1, latest}, {longest, 1, 1025, 1, -1}, {longest, longest, 1024, 1, latest}, {longest, longest + 1, 1024, 1, -1}, {longest - 1, 1, 1025, 1, latest - 1023}, {longest, 0, 1026, 1, -1}, {longest, 0, 1025001, 1000, -1}, {longest, 0, 1024999, 1000, latest - longest/1000},
		{longest, 0, mostOver, mostOver - 1, mostOver + 2}, {longest, 0, mostOver, 1, -1}, {longest, latest, mostOver, 1, -1}, {1 << 30, 0, mostOver, 1, latest - 1<<30}, {1<<30 + 1, 0, mostOver, 1, latest + mostOver - 1<<30 - 1},
		{1, latest, 2, 1, -1}, {1, latest - 1, 2, 1, latest}, {1, latest - 1, 2, 2, 0}, {2, latest - 1, 3, 2, latest}, {3, latest - 1, 3, 2, -1}, {3, latest - 2, 3, 2, latest},
	} {
		// It may be none, as behind MaxTime by any of these.
		want, is := c.at, c.at >= 0 && c.at <= latest
		if !is {
			want = 0
		}
		j := api.Job{Id: 1, Width: 1, Est: c.est, Sub: c.sub}
		if at, ok := Since(j, c.num, c.den); at != want || ok != is {
			t.Errorf("Since(Est %d, Sub %d, %d, %d) = %d, %t; want %d, %t", c.est, c.sub, c.num, c.den, at, ok, want, is)
		}
		sameWait(t, j, api.Ratio{Num: c.num, Den: c.den}, 0, 1, c.sub, latest)
		if is != Over(j, latest, c.num, c.den) || is && !Over(j, want, c.num, c.den) || is && want > 0 && Over(j, want-1, c.num, c.den) {
			t.Errorf("Over(Est %d, Sub %d, %d, %d)", c.est, c.sub, c.num, c.den)
		}
	}
}

// Se1: a threshold that may not be: none is over it, at any time, and a pass answers ErrArg; those of edges may be.
func TestWrongThreshold(t *testing.T) {
	s := stepsOf([2]int{2, 1}, [2]int{latest, 9})
	jobs := []api.Job{{Id: 1, Width: 1, Est: 1}, {Id: 2, Width: 3, Est: longest, Sub: 4}, {Id: 3, Width: 2, Est: 7, Sub: latest}}
	for _, x := range noThresholds() {
		for _, j := range jobs {
			for _, now := range append(noNows(), 0, 1, 5, longest, latest) {
				if Over(j, now, x.Num, x.Den) {
					t.Errorf("Over(%v, %d, %d, %d)", j, now, x.Num, x.Den)
				}
			}
			if at, ok := Since(j, x.Num, x.Den); at != 0 || ok {
				t.Errorf("Since(%v, %d, %d) = %d, %t", j, x.Num, x.Den, at, ok)
			}
		}
		for _, now := range []int{2, 9, latest} {
			for _, l := range [][]api.Job{nil, jobs, many(mostJobs, 1, 1)} {
				refused(t, s, now, l, x, api.ErrArg)
			}
			refused(t, s, now, many(mostJobs+1, 1, 1), x, api.ErrFull)
		}
		refused(t, s, 1, many(mostJobs+1, 1, 1), x, api.ErrArg)
		refused(t, nil, 2, many(mostJobs+1, 1, 1), x, api.ErrArg)
	}
	for _, x := range thresholds() {
		for _, now := range []int{2, 9, latest} {
			samePass(t, s, now, jobs, x)
			samePass(t, s, now, nil, x)
		}
	}
}

// Se1: at a time that is not 0 to MaxTime none is over a threshold, also where no wait is asked for.
func TestOverAtNoTime(t *testing.T) {
	for _, j := range []api.Job{{Est: 1}, {Est: longest}, {Est: 3, Sub: 5}, {Est: 1, Sub: latest}} {
		for _, x := range thresholds() {
			for _, now := range noNows() {
				if Over(j, now, x.Num, x.Den) {
					t.Errorf("Over(%v, %d, %d, %d)", j, now, x.Num, x.Den)
				}
			}
			sameWait(t, j, x, 0, latest)
		}
		if !Over(j, 0, 1, 1) || !Over(j, latest, 1, 1) || !Over(j, 0, 0, mostOver) || !Over(j, latest, 0, 1) {
			t.Errorf("%v at the ends", j)
		}
	}
}

// Se1: a job of an Est that is not 1 to MaxEst is never over, nor one of a Sub that is not 0 to MaxTime; those of edges are.
func TestNeverOver(t *testing.T) {
	for _, j := range noWaits() {
		for _, x := range thresholds() {
			for _, now := range []int{0, 1, 5, longest, latest} {
				if Over(j, now, x.Num, x.Den) {
					t.Errorf("Over(%v, %d, %d, %d)", j, now, x.Num, x.Den)
				}
			}
			if at, ok := Since(j, x.Num, x.Den); at != 0 || ok {
				t.Errorf("Since(%v, %d, %d) = %d, %t", j, x.Num, x.Den, at, ok)
			}
		}
	}
	for _, est := range []int{1, longest} {
		for _, sub := range []int{0, latest} {
			if at, ok := Since(api.Job{Est: est, Sub: sub}, 1, 1); at != 0 || !ok {
				t.Errorf("Est %d, Sub %d: %d, %t", est, sub, at, ok)
			}
		}
	}
	// Nothing else of a job counts.
	for _, j := range []api.Job{{Id: -4, Width: -1, Prio: -7, State: 99, Start: 3, End: -2}, {Id: 1, User: "ann", Width: greatest + 1, Prio: 9, State: api.JobDone, Start: latest, End: math.MaxInt}} {
		j.Est, j.Sub = 5, 7
		if at, ok := Since(j, 2, 1); at != 12 || !ok || Over(j, 11, 2, 1) || !Over(j, 12, 2, 1) {
			t.Errorf("%v: %d, %t", j, at, ok)
		}
	}
}

// Se1, Se2: all short jobs and small thresholds, time by time: over from a time on, and not ahead of it.
func TestOverTimeByTime(t *testing.T) {
	const times = 90
	for est := 1; est <= 8; est++ {
		for sub := range 7 {
			j := api.Job{Est: est, Sub: sub}
			for num := range 11 {
				for den := 1; den <= 6; den++ {
					first := -1
					for now := times; now >= 0; now-- {
						wait := max(now-sub, 0)
						over := (wait+est)*den >= num*est
						if Over(j, now, num, den) != over {
							t.Fatalf("Over(%v, %d, %d, %d) = %t", j, now, num, den, !over)
						}
						if over {
							first = now
						}
					}
					if at, ok := Since(j, num, den); at != first || !ok {
						t.Fatalf("Since(%v, %d, %d) = %d, %t; want %d", j, num, den, at, ok, first)
					}
				}
			}
		}
	}
}

// Se1: jobs, thresholds and times at edges, by definition.
func TestOverEndsByDefinition(t *testing.T) {
	found, none := 0, 0
	for _, est := range []int{1, 2, 3, 1023, 1 << 20, 1<<20 + 1, 1<<30 - 1, 1 << 30, 1<<30 + 1, longest - 1, longest} {
		for _, sub := range []int{0, 1, 5, longest - 1, longest, latest - longest - 1, latest - longest, latest - mostOver, latest - 2, latest - 1, latest} {
			j := api.Job{Est: est, Sub: sub}
			for _, x := range thresholds() {
				sameWait(t, j, x, 0, 1, sub-1, sub, sub+1, sub+est, latest-1, latest, latest+1)
				if _, ok := Since(j, x.Num, x.Den); ok {
					found++
				} else {
					none++
				}
			}
		}
	}
	if found < 500 || none < 200 {
		t.Errorf("%d found, %d none", found, none)
	}
}

// Se1, Se2: mixed jobs and thresholds, by definition; of two times the later one is over, if the earlier one is, and of two jobs the one that came earlier.
func TestOverMixedByDefinition(t *testing.T) {
	for seed := range 3000 {
		next := mixed(seed)
		j := api.Job{Est: 1 + next(1<<(1+next(40))), Sub: next(1 << (1 + next(50)))}
		x := api.Ratio{Num: next(1 << (1 + next(20))), Den: 1 + next(1<<(1+next(20)))}
		now, more := next(1<<(1+next(50))), next(1<<(1+next(50)))
		sameWait(t, j, x, now, now+more, j.Sub, j.Sub+j.Est)
		over := Over(j, now, x.Num, x.Den)
		if over && now+more <= latest && !Over(j, now+more, x.Num, x.Den) {
			t.Fatalf("%v, %v: over at %d, not at %d", j, x, now, now+more)
		}
		j.Sub = next(j.Sub + 1)
		if over && !Over(j, now, x.Num, x.Den) {
			t.Fatalf("%v, %v at %d: not over, that came later is", j, x, now)
		}
	}
}

// Se1: passes by hand: first those over the threshold, in order, started or promised; then the others, that are started alone.
func TestByHand(t *testing.T) {
	rises := stepsOf([2]int{0, 3}, [2]int{9, 8})
	dips := stepsOf([2]int{2, 4}, [2]int{15, 1}, [2]int{18, 4})
	two := api.Ratio{Num: 2, Den: 1}
	one := api.Ratio{Num: 1, Den: 1}
	top := api.Ratio{Num: mostOver, Den: 1}
	for _, c := range []struct {
		s        []api.Step
		now      int
		jobs     []api.Job
		x        api.Ratio
		starts   []int
		promises []api.Promise
		left     []api.Step
	}{
		// Those over it stand behind, and come first; what starts ahead of others is told ahead of them.
		{rises, 6, came(jobsOf([2]int{2, 5}, [2]int{1, 3}, [2]int{1, 6}, [2]int{1, 6}, [2]int{1, 3}), 3, 3, 3, 0, 6), two, []int{2, 4, 3}, nil, stepsOf([2]int{0, 3}, [2]int{6, 0}, [2]int{9, 6}, [2]int{12, 8})},
		// All are over it, and promised.
		{rises, 6, came(jobsOf([2]int{2, 4}, [2]int{5, 20}, [2]int{2, 7}, [2]int{8, 6}, [2]int{8, 6}, [2]int{4, 5}), 3, 3, 4, 0, 1, 1), one, []int{1}, promisesOf([2]int{2, 9}, [2]int{3, 10}, [2]int{4, 29}, [2]int{5, 35}, [2]int{6, 41}), stepsOf([2]int{0, 3}, [2]int{6, 1}, [2]int{17, 3}, [2]int{29, 0}, [2]int{41, 4}, [2]int{46, 8})},
		// What is promised takes its time from the others; one of them that has no room is not promised.
		{rises, 6, came(jobsOf([2]int{4, 3}, [2]int{5, 20}, [2]int{2, 7}, [2]int{8, 6}, [2]int{8, 6}, [2]int{4, 5}, [2]int{1, 1}), 4, 4, 4, 0, 1, 1, 6), two, []int{7}, promisesOf([2]int{4, 9}, [2]int{6, 15}), stepsOf([2]int{0, 3}, [2]int{6, 2}, [2]int{7, 3}, [2]int{9, 0}, [2]int{15, 4}, [2]int{20, 8})},
		// One over it without a shadow is passed over.
		{rises, 8, came(jobsOf([2]int{9, 1}, [2]int{0, 1}, [2]int{4, 2}, [2]int{1, 1}), 0), two, []int{4}, promisesOf([2]int{3, 9}), stepsOf([2]int{0, 3}, [2]int{8, 2}, [2]int{9, 4}, [2]int{11, 8})},
		// A promise may be earlier than the one it stands behind.
		{dips, 12, came(jobsOf([2]int{4, 4}, [2]int{4, 3}, [2]int{4, 5}, [2]int{1, 3}, [2]int{3, 2}), 2, 7, 11, 12, 0), two, []int{2}, promisesOf([2]int{1, 18}, [2]int{5, 22}), stepsOf([2]int{2, 4}, [2]int{12, 0}, [2]int{15, 1}, [2]int{18, 0}, [2]int{22, 1}, [2]int{24, 4})},
		// None is over it, none starts; the steps stay.
		{rises, 4, came(many(3, 4, 3), 2), two, nil, nil, rises},
		{rises, 4, nil, two, nil, nil, rises}, {dips, latest, []api.Job{}, one, nil, nil, dips},
		// The last times: no job is promised a time behind MaxTime.
		{stepsOf([2]int{0, 0}, [2]int{latest, 3}), latest - 1, jobsOf([2]int{4, 1}, [2]int{3, longest}, [2]int{1, 1}), one, nil, promisesOf([2]int{2, latest}), stepsOf([2]int{0, 0}, [2]int{latest + longest, 3})},
		{stepsOf([2]int{0, 2}, [2]int{latest, 3}), latest, came(jobsOf([2]int{3, 1}, [2]int{3, 1 << 30}, [2]int{1, 1}), latest-mostOver+2, 0, latest-mostOver+1), top, []int{2}, nil, stepsOf([2]int{0, 2}, [2]int{latest, 0}, [2]int{latest + 1<<30, 3})},
	} {
		plan, left, e := Pass(c.s, c.now, c.jobs, c.x)
		if e != api.OK || !samePlan(plan, api.Plan{Starts: c.starts, Promises: c.promises}) || !slices.Equal(left, c.left) {
			t.Errorf("Pass(%v, %d, %v, %v) = %v, %v, %d; want %v, %v, %v", c.s, c.now, c.jobs, c.x, plan, left, e, c.starts, c.promises, c.left)
		}
		samePass(t, c.s, c.now, c.jobs, c.x)
	}
}

// Se1: each threshold parts the same jobs in its own way, and what stands behind turns what is told.
func TestThresholdsByHand(t *testing.T) {
	s := stepsOf([2]int{0, 4}, [2]int{20, 8})
	// At 10 their waits by their Ests are 0, 1, 2, 3 and 4 fifths.
	jobs := came(jobsOf([2]int{2, 5}, [2]int{3, 5}, [2]int{5, 5}, [2]int{4, 5}, [2]int{2, 5}), 10, 9, 8, 7, 6)
	for _, c := range []struct {
		xs       []api.Ratio
		starts   []int
		promises []api.Promise
	}{
		{[]api.Ratio{{Num: 0, Den: 1}, {Num: 4, Den: 5}, {Num: 5, Den: 5}, {Num: mostOver, Den: mostOver}}, []int{1, 5}, promisesOf([2]int{2, 15}, [2]int{3, 20}, [2]int{4, 25})},
		{[]api.Ratio{{Num: mostOver, Den: mostOver - 1}, {Num: 6, Den: 5}, {Num: 12, Den: 10}}, []int{2}, promisesOf([2]int{3, 20}, [2]int{4, 15}, [2]int{5, 20})},
		{[]api.Ratio{{Num: 7, Den: 5}, {Num: 13, Den: 10}, {Num: 121, Den: 100}}, []int{4}, promisesOf([2]int{3, 20}, [2]int{5, 15})},
		{[]api.Ratio{{Num: 8, Den: 5}, {Num: 3, Den: 2}}, []int{4}, promisesOf([2]int{5, 15})},
		{[]api.Ratio{{Num: 9, Den: 5}, {Num: 161, Den: 100}}, []int{5, 1}, nil},
		{[]api.Ratio{{Num: 10, Den: 5}, {Num: 181, Den: 100}, {Num: mostOver, Den: 1}}, []int{1, 5}, nil},
	} {
		for _, x := range c.xs {
			plan, _, e := Pass(s, 10, jobs, x)
			if want := (api.Plan{Starts: c.starts, Promises: c.promises}); e != api.OK || !samePlan(plan, want) {
				t.Errorf("%v: %v, %d; want %v", x, plan, e, want)
			}
			samePass(t, s, 10, jobs, x)
		}
	}
}

// Se1: steps that may not be, with anything beside them: ErrArg, also ahead of ErrFull.
func TestWrongSteps(t *testing.T) {
	for _, s := range noSteps() {
		for _, now := range append(noNows(), 0, 1, 3, 5, 9, latest) {
			for _, n := range []int{0, 1, mostJobs, mostJobs + 1} {
				refused(t, s, now, many(n, 1, 1), api.Ratio{Num: 2, Den: 1}, api.ErrArg)
				refused(t, s, now, many(n, 1, 1), api.Ratio{Num: 0, Den: 1}, api.ErrArg)
			}
		}
	}
}

// Se1: now is not 0 to MaxTime, or ahead of the first step: ErrArg, also ahead of ErrFull; at the first step, and at MaxTime, it may be.
func TestWrongNow(t *testing.T) {
	for _, first := range []int{0, 1, 7, longest, latest - 1, latest} {
		s := stepsOf([2]int{first, 4}, [2]int{latest + 5, 2}, [2]int{never, 3})
		for _, now := range append(noNows(), first-1, first-2) {
			for _, n := range []int{0, 1, mostJobs, mostJobs + 1} {
				refused(t, s, now, many(n, 1, 1), api.Ratio{Num: 2, Den: 1}, api.ErrArg)
			}
		}
		for _, now := range []int{first, min(first+1, latest), latest} {
			for _, x := range thresholds() {
				samePass(t, s, now, many(3, 2, 1), x)
			}
		}
	}
}

// Se1: 100 jobs may be, more may not: each counts, also one that is never over, and one whose Id another one has.
func TestManyJobs(t *testing.T) {
	s := stepsOf([2]int{3, 1}, [2]int{8, 2})
	same := slices.Repeat([]api.Job{{Id: 7, Width: 2, Est: 3}}, mostJobs+1)
	none := make([]api.Job, mostJobs+1)
	for _, l := range [][]api.Job{many(mostJobs+1, 1, 9), came(many(mostJobs+1, 1, 5), 0, 5, 1, 4), same, none} {
		for _, x := range thresholds() {
			for _, n := range []int{0, 1, 2, mostJobs - 1, mostJobs} {
				samePass(t, s, 5, l[:n], x)
			}
			refused(t, s, 5, l, x, api.ErrFull)
			refused(t, s, 5, slices.Repeat(l, 9), x, api.ErrFull)
		}
	}
	plan, _, e := Pass(s, 5, same[:mostJobs], api.Ratio{Num: 8, Den: 3})
	if e != api.OK || len(plan.Promises) != mostJobs || plan.Promises[mostJobs-1] != (api.Promise{Id: 7, At: 8 + 3*99}) {
		t.Errorf("100 jobs: %v, %d", plan, e)
	}
	// The last one of 100 alone is over it.
	plan, _, e = Pass(s, 5, came(many(mostJobs, 1, 5), append(slices.Repeat([]int{1}, mostJobs-1), 0)...), api.Ratio{Num: 2, Den: 1})
	if e != api.OK || !samePlan(plan, api.Plan{Starts: []int{mostJobs}}) {
		t.Errorf("the last one: %v, %d", plan, e)
	}
}

// Se1: jobs that may not be by Width or Est have neither room nor a shadow: they are passed over without an error, and are not promised, over the threshold or not.
func TestWrongJobs(t *testing.T) {
	wrong := noJobs()
	good := jobsOf([2]int{greatest, 2}, [2]int{1, 1}, [2]int{2, 9}, [2]int{2, 1})
	for _, s := range [][]api.Step{stepsOf([2]int{0, greatest}), stepsOf([2]int{0, 0}), stepsOf([2]int{0, 0}, [2]int{9, greatest}), stepsOf([2]int{0, greatest}, [2]int{9, 0})} {
		for _, now := range []int{0, 9, latest} {
			for _, x := range thresholds() {
				plan, left, e := Pass(s, now, wrong, x)
				if e != api.OK || !samePlan(plan, api.Plan{}) || !slices.Equal(left, s) {
					t.Errorf("Pass(%v, %d, wrong ones, %v) = %v, %v, %d", s, now, x, plan, left, e)
				}
				samePass(t, s, now, slices.Concat(wrong, good, wrong[:9]), x)
			}
		}
	}
	plan, _, _ := Pass(stepsOf([2]int{0, 1}, [2]int{9, greatest}), 2, slices.Concat(wrong, good), api.Ratio{Num: 2, Den: 1})
	if !samePlan(plan, api.Plan{Starts: []int{2}, Promises: promisesOf([2]int{1, 9}, [2]int{4, 11})}) {
		t.Errorf("behind wrong ones: %v", plan)
	}
}

// Se1: a job of a Sub that may not be is one of the others: it starts, if it has room, and is never promised.
func TestWrongSub(t *testing.T) {
	s := stepsOf([2]int{0, 3}, [2]int{9, 8})
	for _, sub := range []int{math.MinInt, -latest, -1, latest + 1, never, math.MaxInt} {
		jobs := came(jobsOf([2]int{2, 5}, [2]int{4, 5}, [2]int{2, 5}, [2]int{1, 5}), sub, sub, 0, sub)
		for _, x := range []api.Ratio{{Num: 0, Den: 1}, {Num: 1, Den: 1}, {Num: 2, Den: 1}} {
			plan, _, e := Pass(s, 5, jobs, x)
			if e != api.OK || !samePlan(plan, api.Plan{Starts: []int{3, 4}}) {
				t.Errorf("Pass(%v, 5, %v, %v) = %v, %d", s, jobs, x, plan, e)
			}
			samePass(t, s, 5, jobs, x)
		}
		for _, now := range []int{0, 9, latest} {
			samePass(t, s, now, jobs, api.Ratio{Num: 2, Den: 1})
		}
	}
}

// Se1: a job that comes behind now has no wait: it is over 1 over 1, and no more.
func TestAheadOfComing(t *testing.T) {
	s := stepsOf([2]int{0, 3}, [2]int{9, 8})
	for _, sub := range []int{4, 5, 9, longest, latest} {
		jobs := came(jobsOf([2]int{4, 5}, [2]int{3, 5}, [2]int{3, 4}), sub)
		plan, _, e := Pass(s, 4, jobs, api.Ratio{Num: 1, Den: 1})
		if e != api.OK || !samePlan(plan, api.Plan{Starts: []int{2}, Promises: promisesOf([2]int{1, 9}, [2]int{3, 9})}) {
			t.Errorf("Sub %d, 1 over 1: %v, %d", sub, plan, e)
		}
		plan, _, e = Pass(s, 4, jobs, api.Ratio{Num: mostOver, Den: mostOver - 1})
		if e != api.OK || !samePlan(plan, api.Plan{Starts: []int{2}}) {
			t.Errorf("Sub %d, some more: %v, %d", sub, plan, e)
		}
	}
}

// Se1: jobs are looked at as they stand, by Width, Est and Sub alone; each job counts, also one whose Id another one has, and Ids may be any.
func TestOtherFields(t *testing.T) {
	s := stepsOf([2]int{0, 2}, [2]int{6, 7})
	odd := []api.Job{
		{Id: 7, User: "bob", Width: 1, Est: 4, Prio: 1, Sub: 90, State: api.JobDone, Start: 4, End: 5},
		{Id: 7, User: "bob", Width: 1, Est: 4, Prio: 9, Sub: 2, State: api.JobHeld},
		{Id: -1, Width: 7, Est: 3, Prio: -5, State: 77, Start: 40, End: 2},
		{Id: 7, Width: 7, Est: 3, Prio: 1000},
		{Id: math.MinInt, Width: 1, Est: 1, Sub: latest},
		{Id: math.MaxInt, Width: 1, Est: 3, State: api.JobRunning},
	}
	for _, c := range []struct {
		starts   []int
		promises []api.Promise
		left     []api.Step
	}{
		{[]int{math.MaxInt, math.MinInt}, promisesOf([2]int{-1, 6}, [2]int{7, 9}), stepsOf([2]int{0, 2}, [2]int{3, 0}, [2]int{4, 1}, [2]int{6, 0}, [2]int{12, 7})},
		{[]int{math.MaxInt, math.MinInt}, promisesOf([2]int{7, 6}, [2]int{-1, 9}), stepsOf([2]int{0, 2}, [2]int{3, 0}, [2]int{4, 1}, [2]int{6, 0}, [2]int{12, 7})},
	} {
		plan, left, e := Pass(s, 3, odd, api.Ratio{Num: 2, Den: 1})
		if e != api.OK || !samePlan(plan, api.Plan{Starts: c.starts, Promises: c.promises}) || !slices.Equal(left, c.left) {
			t.Errorf("%v, %v, %d; want %v", plan, left, e, c)
		}
		samePass(t, s, 3, odd, api.Ratio{Num: 1, Den: 1})
		slices.Reverse(odd)
	}
}

// Se1: all lists of three small jobs that came at some times by small steps, by definition.
func TestSmallByDefinition(t *testing.T) {
	var kinds []api.Job
	for _, width := range []int{1, 2, 3} {
		for _, sub := range []int{0, 3} {
			kinds = append(kinds, api.Job{Id: len(kinds), Width: width, Est: 1, Sub: sub}, api.Job{Id: len(kinds) + 1, Width: width, Est: 3, Sub: sub})
		}
	}
	kinds = append(kinds, api.Job{Id: 40, Width: 6, Est: 1})
	for _, s := range append(some([]int{0, 1, 4}, 0, 1, 2, 3), some([]int{1, 3, 6}, 0, 2, 5)...) {
		for _, now := range []int{1, 3, 4} {
			for _, a := range kinds {
				for _, b := range kinds {
					for _, c := range kinds {
						samePass(t, s, now, []api.Job{a, b, c}, api.Ratio{Num: 2, Den: 1})
					}
				}
			}
		}
	}
}

// Se1: steps at the last times, and of the most that may be free, with jobs and thresholds at edges, by definition.
func TestEndsByDefinition(t *testing.T) {
	var kinds []api.Job
	for n, width := range []int{1, greatest - 1, greatest} {
		kinds = append(kinds, api.Job{Id: 10 * n, Width: width, Est: 1}, api.Job{Id: 10*n + 1, Width: width, Est: 2, Sub: latest - 1}, api.Job{Id: 10*n + 2, Width: width, Est: longest})
	}
	l := some([]int{0, longest, latest, latest + 1}, 0, 1, greatest)
	l = append(l, some([]int{latest - 1, latest, latest + longest, never}, 0, greatest-1, greatest)...)
	for _, s := range l {
		for _, now := range []int{0, longest - 1, latest - longest, latest - 1, latest} {
			if now < s[0].At {
				continue
			}
			for _, a := range kinds {
				for _, b := range kinds {
					samePass(t, s, now, []api.Job{a, b, a}, api.Ratio{Num: 3, Den: 2})
					samePass(t, s, now, []api.Job{a, b}, api.Ratio{Num: 1025, Den: 1})
				}
			}
		}
	}
}

// Se1: longer lists by longer steps, also at the last times, by definition.
func TestMixedByDefinition(t *testing.T) {
	both := 0
	for seed := range 800 {
		s, now, jobs, x := caseOf(seed, 40)
		next := mixed(seed + 5000)
		if next(3) == 0 {
			first := []int{7, latest - 30, latest}[next(3)]
			s = mixedSteps(next, first, 1+next(9), []int{4, 20, greatest}[next(3)])
			now = min(first+next(30), latest)
			for n := range jobs {
				jobs[n].Sub = max(now-next(40), 0)
			}
		}
		samePass(t, s, now, jobs, x)
		over, others := overOf(now, jobs, x)
		if plan, _ := meantPass(s, now, jobs, x); len(plan.Promises) > 1 && len(plan.Starts) > 1 && len(over) > 3 && len(others) > 3 {
			both++
		}
	}
	if both < 100 {
		t.Errorf("%d passes with more than one start and promise", both)
	}
}

// Se1: passes against a table of times, one by one: what is left is what the steps tell.
func TestTimeByTime(t *testing.T) {
	const times = 900
	for seed := range 300 {
		s, now, jobs, x := caseOf(seed, 40)
		plan, left, e := Pass(s, now, jobs, x)
		free := spots(s, times)
		over, others := overOf(now, jobs, x)
		var want api.Plan
		for n, j := range slices.Concat(over, others) {
			at := firstSpot(free, now, j)
			if at == now {
				want.Starts = append(want.Starts, j.Id)
			} else if at > now && n < len(over) {
				want.Promises = append(want.Promises, api.Promise{Id: j.Id, At: at})
			} else {
				continue
			}
			for k := at; k < at+j.Est; k++ {
				free[k] -= j.Width
			}
		}
		if e != api.OK || !samePlan(plan, want) || !slices.Equal(spots(left, times), free) {
			t.Fatalf("Pass(%v, %d, %v, %v) = %v, %v, %d; time by time: %v", s, now, jobs, x, plan, left, e, want)
		}
	}
}

// Se1: where all are over the threshold each job is promised, as by 17's pass; where none is, none, as by 16's without a head.
func TestAllOrNone(t *testing.T) {
	for seed := range 300 {
		s, now, jobs, _ := caseOf(seed, 40)
		plan, left, e := Pass(s, now, jobs, api.Ratio{Num: 1 + seed%7, Den: 7})
		if want, then, _ := cons.Pass(s, now, jobs); e != api.OK || !samePlan(plan, want) || !slices.Equal(left, then) {
			t.Fatalf("Pass(%v, %d, %v), all over: %v, %v, %d; 17's: %v, %v", s, now, jobs, plan, left, e, want, then)
		}
		plan, left, e = Pass(s, now, jobs, api.Ratio{Num: mostOver - seed, Den: 1 + seed})
		if want, then, _ := easy.Pass(s, now, jobs, false); e != api.OK || !samePlan(plan, want) || !slices.Equal(left, then) {
			t.Fatalf("Pass(%v, %d, %v), none over: %v, %v, %d; 16's: %v, %v", s, now, jobs, plan, left, e, want, then)
		}
	}
}

// Se2: a job has a promise just if it is over, has a shadow, and no room, behind those over the threshold that stand ahead of it.
func TestPromisedIfOver(t *testing.T) {
	promised, started := 0, 0
	for seed := range 300 {
		s, now, jobs, x := caseOf(seed, 40)
		plan, _, _ := Pass(s, now, jobs, x)
		for n, j := range jobs {
			over, _ := overOf(now, jobs[:n], x)
			_, left, e := Pass(s, now, over, x)
			at, _, has := shadow.Of(left, now, j)
			_, room := shadow.Lay(left, now, j)
			isOver := Over(j, now, x.Num, x.Den)
			is := slices.Contains(plan.Promises, api.Promise{Id: j.Id, At: at})
			if e != api.OK || is != (isOver && has && !room) {
				t.Fatalf("Pass(%v, %d, %v, %v): %v; job %d", s, now, jobs, x, plan, j.Id)
			}
			if is {
				promised++
			}
			if starts := slices.Contains(plan.Starts, j.Id); starts && !room || isOver && room && !starts {
				t.Fatalf("Pass(%v, %d, %v, %v): %v; start of job %d", s, now, jobs, x, plan, j.Id)
			} else if starts {
				started++
			}
		}
	}
	if promised < 700 || started < 300 {
		t.Errorf("%d promised, %d started", promised, started)
	}
}

// Se1, Se2: the others turn nothing for those over the threshold, wherever they stand among them.
func TestOthersTurnNothing(t *testing.T) {
	for seed := range 300 {
		s, now, jobs, x := caseOf(seed, 40)
		plan, left, _ := Pass(s, now, jobs, x)
		over, others := overOf(now, jobs, x)
		alone, _, e := Pass(s, now, over, x)
		if e != api.OK || !slices.Equal(alone.Promises, plan.Promises) || len(alone.Starts) > len(plan.Starts) || !slices.Equal(alone.Starts, plan.Starts[:len(alone.Starts)]) {
			t.Fatalf("Pass(%v, %d, %v, %v): %v; of those over it alone: %v", s, now, jobs, x, plan, alone)
		}
		for _, l := range [][]api.Job{slices.Concat(over, others), slices.Concat(others, over)} {
			if again, then, _ := Pass(s, now, l, x); !samePlan(again, plan) || !slices.Equal(then, left) {
				t.Fatalf("Pass(%v, %d, %v, %v): %v, %v; moved: %v, %v", s, now, jobs, x, plan, left, again, then)
			}
		}
	}
}

// Se2: what is started and promised has room together, and no one that waits with a promise could start.
func TestRoomTogether(t *testing.T) {
	for seed := range 300 {
		s, now, jobs, x := caseOf(seed, 40)
		plan, left, _ := Pass(s, now, jobs, x)
		var taken []api.Busy
		for _, id := range plan.Starts {
			taken = append(taken, run(now, jobs[id]))
		}
		for _, p := range plan.Promises {
			if p.At <= now || p.Slack != 0 || slices.Contains(plan.Starts, p.Id) {
				t.Fatalf("Pass(%v, %d, %v, %v): %v", s, now, jobs, x, plan)
			}
			taken = append(taken, run(p.At, jobs[p.Id]))
		}
		if then := stepsThen(s, taken); !slices.Equal(then, left) {
			t.Fatalf("Pass(%v, %d, %v, %v): %v; then %v", s, now, jobs, x, left, then)
		}
		for _, a := range left {
			if a.Free < 0 {
				t.Fatalf("Pass(%v, %d, %v, %v): %v", s, now, jobs, x, left)
			}
		}
	}
}

// R3: nothing is written to what is handed in, and answers are new memory, also where nothing is laid.
func TestNewMemory(t *testing.T) {
	s := stepsOf([2]int{4, 3}, [2]int{9, 8}, [2]int{12, 1})
	jobs := came(jobsOf([2]int{1, 20}, [2]int{2, 5}, [2]int{3, 3}, [2]int{9, 9}, [2]int{9, 9}), 5, 0, 2, 0, 5)
	wasS, wasJobs := slices.Clone(s), slices.Clone(jobs)
	pass := func(l []api.Job) (api.Plan, []api.Step) {
		plan, left, _ := Pass(s[:2], 5, l, api.Ratio{Num: 2, Den: 1})
		return plan, left
	}
	plan, left := pass(jobs[:3])
	_, over := pass(jobs[3:4])
	_, none := pass(jobs[4:])
	_, empty := pass(nil)
	if !slices.Equal(s, wasS) || !slices.Equal(jobs, wasJobs) {
		t.Fatalf("turned: %v, %v", s, jobs)
	}
	for n, l := range [][]api.Step{left, over, none, empty} {
		if len(l) == 0 {
			t.Fatalf("nothing from call %d", n)
		}
		l[0].Free = 50
		_ = append(l, api.Step{At: 51})
		if !slices.Equal(s, wasS) {
			t.Fatalf("the answer of call %d is shared: %v", n, s)
		}
	}
	want := api.Plan{Starts: []int{2, 1}, Promises: promisesOf([2]int{3, 9})}
	if !samePlan(plan, want) {
		t.Fatalf("%v", plan)
	}
	plan.Starts[0], plan.Promises[0].At = 50, 50
	if again, _ := pass(jobs[:3]); !samePlan(again, want) || !slices.Equal(jobs, wasJobs) {
		t.Errorf("an answer has turned: %v, %v", again, jobs)
	}
}

// Se1 of any steps, times, jobs and thresholds: go test -run xxx -fuzz=FuzzPasses ./sel.
func FuzzPasses(f *testing.F) {
	f.Add([]byte{3, 9, 8}, []byte{2, 19, 1, 4, 5, 6}, 0, 5, 3, 20, 0, 2, 1)
	f.Add([]byte{255, 1, 254, 2, 255}, []byte{255, 255, 0, 0, 128, 3}, latest-3, latest, greatest, longest, latest, mostOver, 1)
	f.Add([]byte{4}, []byte{1, 1, 1}, 0, -5, math.MinInt, math.MaxInt, math.MinInt, -1, 0)
	f.Fuzz(func(t *testing.T, turns, some []byte, first, now, width, est, sub, num, den int) {
		// What is free, and behind it how long it stays so, in turn.
		var s []api.Step
		from := first
		for n, b := range turns {
			if n%2 == 1 {
				from += 1 + int(b)
			} else if len(s) == 0 || s[len(s)-1].Free != int(b) {
				s = append(s, api.Step{At: from, Free: int(b)})
			}
		}
		jobs := []api.Job{{Id: 1, Width: width, Est: est, Sub: sub}}
		for n := 2; n < len(some); n += 3 {
			jobs = append(jobs, api.Job{Id: n, Width: int(some[n-2]), Est: int(int8(some[n-1])), Sub: now - int(int8(some[n]))})
		}
		x := api.Ratio{Num: num, Den: den}
		sameWait(t, jobs[0], x, now)
		if len(s) == 0 || first < 0 || first > latest || now < first || now > latest {
			refused(t, s, now, jobs, x, api.ErrArg)
		} else if len(jobs) > mostJobs {
			refused(t, s, now, jobs, x, api.ErrFull)
		} else if !meantThreshold(x) {
			refused(t, s, now, jobs, x, api.ErrArg)
		} else if len(s) < 100 {
			samePass(t, s, now, jobs, x)
		}
	})
}
