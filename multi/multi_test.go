package multi

import (
	"math"
	"slices"
	"testing"

	"stint/api"
	"stint/easy"
	"stint/queue"
)

const (
	greatest    = 256
	latest      = api.MaxTime
	longest     = api.MaxEst
	never       = api.Never
	mostJobs    = 100
	mostClasses = 20
)

// noSteps are steps that may not be.
func noSteps() [][]api.Step {
	return [][]api.Step{
		nil, {}, {{At: -1, Free: 4}}, {{At: latest + 1, Free: 4}}, {{At: math.MinInt, Free: 4}}, {{At: math.MaxInt, Free: 4}}, {{At: 0, Free: -1}}, {{At: 0, Free: greatest + 1}}, {{At: 0, Free: math.MaxInt}},
		{{At: 0, Free: 4}, {At: 0, Free: 5}}, {{At: 0, Free: 4}, {At: 5, Free: 4}}, {{At: 3, Free: 4}, {At: 2, Free: 5}}, {{At: 0, Free: 4}, {At: -1, Free: 5}},
		{{At: 0, Free: 4}, {At: 5, Free: 6}, {At: never + 1, Free: 4}}, {{At: 0, Free: 4}, {At: 5, Free: 6}, {At: 9, Free: -1}}, {{At: 0, Free: 4}, {At: 5, Free: 6}, {At: 9, Free: greatest + 1}}, {{At: 0, Free: 4}, {At: 5, Free: 6}, {At: 9, Free: 6}},
	}
}

// noNows are times that are none, by whatever steps.
func noNows() []int {
	return []int{math.MinInt, -latest, -2, -1, latest + 1, never - 1, never, never + 1, math.MaxInt}
}

// noJobs are jobs of unlike Ids from 1001 on that may not be by their Width or Est, or by both.
func noJobs() []api.Job {
	l := []api.Job{{}}
	for _, width := range []int{math.MinInt, -greatest, -1, 0, greatest + 1, 1 << 32, 1<<32 + 1, math.MaxInt} {
		l = append(l, api.Job{Width: width, Est: 1}, api.Job{Width: width, Est: longest}, api.Job{Width: width})
	}
	for _, est := range []int{math.MinInt, -longest, -1, 0, longest + 1, latest, never, math.MaxInt} {
		l = append(l, api.Job{Width: 1, Est: est}, api.Job{Width: greatest, Est: est}, api.Job{Est: est})
	}
	for n := range l {
		l[n].Id = 1001 + n
	}
	return l
}

// of is a class of these bounds.
func of(name string, minW, maxW, minE, maxE int) api.Class {
	return api.Class{Name: name, MinW: minW, MaxW: maxW, MinE: minE, MaxE: maxE}
}

// wide is a class of all lengths and of widths within these.
func wide(name string, least, most int) api.Class {
	return of(name, least, most, 1, longest)
}

// whole is a class of that name that has all widths and lengths.
func whole(name string) api.Class {
	return wide(name, 1, greatest)
}

// rows are so many classes of one width each, from 1 on.
func rows(n int) []api.Class {
	var l []api.Class
	for k := range n {
		l = append(l, wide(nameOf(k), k+1, k+1))
	}
	return l
}

// nameOf is a name, another one for each number below 26.
func nameOf(n int) string {
	return "abcdefghijklmnopqrstuvwxyz"[n : n+1]
}

// noClasses are lists of classes that may not be, and what is wrong with each.
func noClasses() []struct {
	l []api.Class
	e api.Errno
} {
	return []struct {
		l []api.Class
		e api.Errno
	}{
		{[]api.Class{{}}, api.ErrArg}, {[]api.Class{{Name: "a"}}, api.ErrArg}, {[]api.Class{whole("")}, api.ErrArg}, {[]api.Class{whole("A")}, api.ErrArg}, {[]api.Class{whole("abcdefghijklmnopq")}, api.ErrArg},
		{[]api.Class{of("a", 0, 4, 1, 9)}, api.ErrArg}, {[]api.Class{of("a", 5, 4, 1, 9)}, api.ErrArg}, {[]api.Class{wide("a", 1, greatest+1)}, api.ErrArg}, {[]api.Class{of("a", 1, 4, 0, 9)}, api.ErrArg}, {[]api.Class{of("a", 1, 4, 9, 8)}, api.ErrArg}, {[]api.Class{of("a", 1, 4, 1, longest+1)}, api.ErrArg},
		{[]api.Class{of("a", math.MinInt, math.MaxInt, math.MinInt, math.MaxInt)}, api.ErrArg}, {[]api.Class{of("a", math.MaxInt, math.MinInt, math.MaxInt, math.MinInt)}, api.ErrArg},
		{append(rows(19), api.Class{}), api.ErrArg}, {[]api.Class{wide("a", 1, 4), wide("a", 1, 0)}, api.ErrArg}, {[]api.Class{whole("a"), whole("a"), whole("B")}, api.ErrArg},
		{[]api.Class{wide("a", 1, 4), wide("a", 5, 8)}, api.ErrThere}, {[]api.Class{wide("a", 1, 4), wide("b", 4, 8)}, api.ErrThere}, {[]api.Class{whole("a"), whole("b")}, api.ErrThere}, {[]api.Class{of("a", 1, 4, 1, 9), of("b", 5, 8, 1, 9), of("c", 1, 8, 9, 9)}, api.ErrThere}, {append(rows(19), wide("z", 19, greatest)), api.ErrThere},
		{rows(21), api.ErrFull}, {make([]api.Class, 21), api.ErrFull}, {slices.Repeat([]api.Class{whole("a")}, 21), api.ErrFull}, {slices.Repeat(rows(20), 9), api.ErrFull},
	}
}

// jobsOf are jobs of Ids from 1 on, of widths and lengths, by pairs.
func jobsOf(pairs ...[2]int) []api.Job {
	var l []api.Job
	for n, p := range pairs {
		l = append(l, api.Job{Id: n + 1, Width: p[0], Est: p[1]})
	}
	return l
}

// many is so many jobs of Ids from 1 on, of a width and a length.
func many(n, width, est int) []api.Job {
	var l []api.Job
	for id := 1; id <= n; id++ {
		l = append(l, api.Job{Id: id, Width: width, Est: est})
	}
	return l
}

// stepsOf are steps of times and how many are free, by pairs.
func stepsOf(pairs ...[2]int) []api.Step {
	var l []api.Step
	for _, p := range pairs {
		l = append(l, api.Step{At: p[0], Free: p[1]})
	}
	return l
}

// promisesOf are promises of Ids and times, without slack, by pairs.
func promisesOf(pairs ...[2]int) []api.Promise {
	var l []api.Promise
	for _, p := range pairs {
		l = append(l, api.Promise{Id: p[0], At: p[1], Slack: 0})
	}
	return l
}

// freeAt is by definition how many are free at a time, by steps and what is taken beside them.
func freeAt(s []api.Step, taken []api.Busy, t int) int {
	free := 0
	for _, a := range s {
		if a.At <= t {
			free = a.Free
		}
	}
	for _, b := range taken {
		if b.From <= t && t < b.To {
			free -= b.Width
		}
	}
	return free
}

// turns are the times at which something may turn, and this one, rising.
func turns(s []api.Step, taken []api.Busy, at int) []int {
	l := []int{at}
	for _, a := range s {
		l = append(l, a.At)
	}
	for _, b := range taken {
		l = append(l, b.From, b.To)
	}
	slices.Sort(l)
	return slices.Compact(l)
}

// mayRun tells by definition whether a job may have room anywhere.
func mayRun(j api.Job) bool {
	return 1 <= j.Width && j.Width <= greatest && 1 <= j.Est && j.Est <= longest
}

// meantShadow is by definition the least time from now on from which a job has room, and whether there is one: room that is not there ahead of a time begins where something turns.
func meantShadow(s []api.Step, taken []api.Busy, now int, j api.Job) (int, bool) {
	if !mayRun(j) {
		return 0, false
	}
	l := turns(s, taken, now)
	// Ahead of at there is no room that goes on up to where is looked.
	at, is := now, false
	for n, t := range l {
		if t < now {
			continue
		}
		if is && t-at >= j.Est {
			return at, true
		}
		if freeAt(s, taken, t) < j.Width {
			is = false
		} else if !is {
			at, is = t, true
		}
		if is && at > latest {
			return 0, false
		}
		if is && n == len(l)-1 {
			return at, true
		}
	}
	return 0, false
}

// run is what a job takes that is laid from a time on.
func run(at int, j api.Job) api.Busy {
	return api.Busy{From: at, To: at + j.Est, Width: j.Width}
}

// isOf tells by definition whether a job is of a class.
func isOf(c api.Class, j api.Job) bool {
	return c.MinW <= j.Width && j.Width <= c.MaxW && c.MinE <= j.Est && j.Est <= c.MaxE
}

// meantPass is Pass by definition, of what it takes: the plan, the classes' heads by their Ids, also those passed over, and what it takes.
func meantPass(s []api.Step, now int, jobs []api.Job, x api.Queues) (api.Plan, []int, []api.Busy) {
	var plan api.Plan
	var taken []api.Busy
	heads := make([]int, len(x.Classes))
	done := make([]bool, len(jobs))
	for n, c := range x.Classes {
		for k, j := range jobs {
			if !isOf(c, j) {
				continue
			}
			at, ok := meantShadow(s, taken, now, j)
			if !ok {
				continue
			}
			if at == now {
				plan.Starts = append(plan.Starts, j.Id)
				taken = append(taken, run(now, j))
				done[k] = true
				continue
			}
			heads[n] = j.Id
			if n >= len(x.Over) || !x.Over[n] {
				plan.Promises = append(plan.Promises, api.Promise{Id: j.Id, At: at, Slack: 0})
				taken = append(taken, run(at, j))
				done[k] = true
			}
			break
		}
	}
	for k, j := range jobs {
		if at, ok := meantShadow(s, taken, now, j); ok && at == now && !done[k] {
			plan.Starts = append(plan.Starts, j.Id)
			taken = append(taken, run(now, j))
		}
	}
	return plan, heads, taken
}

// stepsThen is by definition the steps with what is taken.
func stepsThen(s []api.Step, taken []api.Busy) []api.Step {
	var l []api.Step
	for _, t := range turns(s, taken, s[0].At) {
		free := freeAt(s, taken, t)
		if len(l) == 0 || l[len(l)-1].Free != free {
			l = append(l, api.Step{At: t, Free: free})
		}
	}
	return l
}

// samePlan tells whether plans are alike.
func samePlan(a, b api.Plan) bool {
	return slices.Equal(a.Starts, b.Starts) && slices.Equal(a.Promises, b.Promises)
}

// samePass tells what is wrong with a pass of what it takes, and with the heads of its classes.
func samePass(t *testing.T, s []api.Step, now int, jobs []api.Job, x api.Queues) {
	t.Helper()
	plan, left, e := Pass(s, now, jobs, x)
	want, _, taken := meantPass(s, now, jobs, x)
	if then := stepsThen(s, taken); e != api.OK || !samePlan(plan, want) || !slices.Equal(left, then) {
		t.Fatalf("Pass(%v, %d, %v, %v) = %v, %v, %d; meant: %v, %v", s, now, jobs, x, plan, left, e, want, then)
	}
	_, meant, _ := meantPass(s, now, jobs, api.Queues{Classes: x.Classes})
	if heads, e := Heads(s, now, jobs, x.Classes); e != api.OK || !slices.Equal(heads, meant) {
		t.Fatalf("Heads(%v, %d, %v, %v) = %v, %d; meant: %v", s, now, jobs, x.Classes, heads, e, meant)
	}
}

// refused tells what is wrong with a pass that has an error, and with the heads that have it likewise.
func refused(t *testing.T, s []api.Step, now int, jobs []api.Job, x api.Queues, want api.Errno) {
	t.Helper()
	plan, left, e := Pass(s, now, jobs, x)
	if e != want || len(plan.Starts) != 0 || len(plan.Promises) != 0 || len(left) != 0 {
		t.Errorf("Pass(%v, %d, %d jobs, %v) = %v, %v, %d; want %d", s, now, len(jobs), x, plan, left, e, want)
	}
	if heads, e := Heads(s, now, jobs, x.Classes); e != want || len(heads) != 0 {
		t.Errorf("Heads(%v, %d, %d jobs, %v) = %v, %d; want %d", s, now, len(jobs), x.Classes, heads, e, want)
	}
}

// some are all steps that begin at the first of these times and have others at some of the rest.
func some(times []int, frees ...int) [][]api.Step {
	var all [][]api.Step
	for _, free := range frees {
		all = append(all, []api.Step{{At: times[0], Free: free}})
	}
	for _, at := range times[1:] {
		for _, s := range slices.Clone(all) {
			for _, free := range frees {
				if free != s[len(s)-1].Free {
					all = append(all, append(slices.Clone(s), api.Step{At: at, Free: free}))
				}
			}
		}
	}
	return all
}

// mixed is numbers that follow a rule, each below what is asked.
func mixed(seed int) func(below int) int {
	x := uint64(seed)*2654435761 + 12345
	return func(below int) int {
		x ^= x << 13
		x ^= x >> 7
		x ^= x << 17
		return int(x >> 1 % uint64(below))
	}
}

// mixedSteps are some steps from a time on, of so many free at most.
func mixedSteps(next func(below int) int, first, most, widest int) []api.Step {
	var s []api.Step
	at := first
	for range most {
		if free := next(widest + 1); len(s) == 0 || s[len(s)-1].Free != free {
			s = append(s, api.Step{At: at, Free: free})
		}
		at += 1 + next(6)
	}
	return s
}

// mixedJobs are so many jobs, whose Ids are their places and one more, in mixed order.
func mixedJobs(next func(below int) int, n, widest, longest int) []api.Job {
	var l []api.Job
	for id := 1; id <= n; id++ {
		j := api.Job{Id: id, User: "ann", Width: 1 + next(widest), Est: 1 + next(longest), Prio: next(9), Sub: next(50), State: api.JobQueued}
		l = slices.Insert(l, next(id), j)
	}
	return l
}

// mixedQueues are some classes that do not meet, in mixed order, of widths and lengths up to these, and which are passed over.
func mixedQueues(next func(below int) int, widest, longest int) api.Queues {
	var x api.Queues
	for minW := 1; minW <= widest; {
		maxW := minW + next(widest)
		for minE := 1; minE <= longest; {
			maxE := minE + next(2*longest)
			if next(5) > 0 && len(x.Classes) < mostClasses {
				c := of(nameOf(len(x.Classes)), minW, maxW, minE, maxE)
				x.Classes = slices.Insert(x.Classes, next(len(x.Classes)+1), c)
			}
			minE = maxE + 1
		}
		minW = maxW + 1
	}
	for range next(len(x.Classes) + 3) {
		x.Over = append(x.Over, next(3) == 0)
	}
	return x
}

// caseOf are mixed steps, a time, jobs and classes.
func caseOf(seed, n int) (s []api.Step, now int, jobs []api.Job, x api.Queues) {
	next := mixed(seed)
	widest := 2 + next(12)
	s = append(mixedSteps(next, 0, 1+next(8), widest), api.Step{At: 60, Free: widest + 1})
	now = next(40)
	jobs = mixedJobs(next, 1+next(n), widest+2, 15)
	return s, now, jobs, mixedQueues(next, widest+2, 15)
}

// spots is time by time how many are free, from 0 on, by steps that begin at 0.
func spots(s []api.Step, times int) []int {
	var l []int
	for t := range times {
		l = append(l, freeAt(s, nil, t))
	}
	return l
}

// firstSpot is the first time from now on from which on there is room, looked for time by time; -1, if there is none.
func firstSpot(free []int, now int, j api.Job) int {
	for at := now; at+j.Est <= len(free); at++ {
		if slices.Min(free[at:at+j.Est]) >= j.Width {
			return at
		}
	}
	return -1
}

// jobOf is the job of an Id.
func jobOf(jobs []api.Job, id int) api.Job {
	return jobs[slices.IndexFunc(jobs, func(j api.Job) bool { return j.Id == id })]
}

// Mu1: the document's example: without classes each that has room is started, and nothing is promised.
func TestExample(t *testing.T) {
	s := stepsOf([2]int{0, 3}, [2]int{9, 8})
	jobs := jobsOf([2]int{4, 9}, [2]int{2, 9}, [2]int{2, 1}, [2]int{1, 20})
	for _, x := range []api.Queues{{}, {Classes: []api.Class{}}, {Over: []bool{}}, {Over: []bool{true, false, true}}} {
		plan, left, e := Pass(s, 0, jobs, x)
		if e != api.OK || !samePlan(plan, api.Plan{Starts: []int{2, 4}}) || !slices.Equal(left, stepsOf([2]int{0, 0}, [2]int{9, 7}, [2]int{20, 8})) {
			t.Errorf("%v: %v, %v, %d", x, plan, left, e)
		}
		if heads, e := Heads(s, 0, jobs, x.Classes); e != api.OK || len(heads) != 0 {
			t.Errorf("%v: heads %v, %d", x, heads, e)
		}
	}
}

// Mu1, Mu2: passes and heads by hand.
func TestByHand(t *testing.T) {
	rises := stepsOf([2]int{0, 3}, [2]int{9, 8})
	tight := stepsOf([2]int{0, 1}, [2]int{9, 8})
	small, big := wide("small", 1, 2), wide("big", 3, greatest)
	four, eight := wide("a", 1, 4), wide("b", 5, 8)
	short, long := of("short", 1, greatest, 1, 5), of("long", 1, greatest, 6, longest)
	two := jobsOf([2]int{6, 2}, [2]int{3, 5}, [2]int{1, 5})
	six := jobsOf([2]int{2, 5}, [2]int{2, 5}, [2]int{1, 4}, [2]int{3, 3}, [2]int{8, 1}, [2]int{1, 2})
	for _, c := range []struct {
		s        []api.Step
		now      int
		jobs     []api.Job
		x        api.Queues
		starts   []int
		promises []api.Promise
		left     []api.Step
		heads    []int
	}{
		// Classes come one behind the other, as they stand in their list, wherever their jobs stand.
		{tight, 0, two, api.Queues{Classes: []api.Class{four, eight}}, []int{3}, promisesOf([2]int{2, 9}, [2]int{1, 14}), stepsOf([2]int{0, 0}, [2]int{5, 1}, [2]int{9, 5}, [2]int{14, 2}, [2]int{16, 8}), []int{2, 1}},
		{tight, 0, two, api.Queues{Classes: []api.Class{eight, four}}, []int{3}, promisesOf([2]int{1, 9}, [2]int{2, 11}), stepsOf([2]int{0, 0}, [2]int{5, 1}, [2]int{9, 2}, [2]int{11, 5}, [2]int{16, 8}), []int{1, 2}},
		// One that is passed over promises nothing, and takes nothing from the next one.
		{tight, 0, two, api.Queues{Classes: []api.Class{eight, four}, Over: []bool{true}}, []int{3}, promisesOf([2]int{2, 9}), stepsOf([2]int{0, 0}, [2]int{5, 1}, [2]int{9, 5}, [2]int{14, 8}), []int{1, 2}},
		{tight, 0, two, api.Queues{Classes: []api.Class{eight, four}, Over: []bool{false, true}}, []int{3}, promisesOf([2]int{1, 9}), stepsOf([2]int{0, 0}, [2]int{5, 1}, [2]int{9, 2}, [2]int{11, 8}), []int{1, 2}},
		// Those behind a head wait till all classes are through, and then start as they stand.
		{rises, 0, six, api.Queues{Classes: []api.Class{small, big}}, []int{1, 3}, promisesOf([2]int{2, 5}, [2]int{4, 9}), stepsOf([2]int{0, 0}, [2]int{4, 1}, [2]int{9, 3}, [2]int{10, 5}, [2]int{12, 8}), []int{2, 4}},
		{rises, 0, six, api.Queues{Classes: []api.Class{big, small}}, []int{4}, promisesOf([2]int{5, 9}, [2]int{1, 3}), stepsOf([2]int{0, 0}, [2]int{3, 1}, [2]int{8, 3}, [2]int{9, 0}, [2]int{10, 8}), []int{5, 1}},
		{rises, 0, six, api.Queues{Classes: []api.Class{small, big}, Over: []bool{true, true}}, []int{1, 3}, nil, stepsOf([2]int{0, 0}, [2]int{4, 1}, [2]int{5, 3}, [2]int{9, 8}), []int{2, 4}},
		{rises, 0, jobsOf([2]int{1, 8}, [2]int{9, 9}, [2]int{4, 1}, [2]int{1, 1}, [2]int{1, 1}, [2]int{2, 9}), api.Queues{Classes: []api.Class{big, small}}, []int{1, 4, 5}, promisesOf([2]int{3, 9}, [2]int{6, 1}), stepsOf([2]int{0, 0}, [2]int{8, 1}, [2]int{9, 2}, [2]int{10, 8}), []int{3, 6}},
		// Jobs of no class start last, and are not promised.
		{rises, 0, jobsOf([2]int{3, 4}, [2]int{2, 9}, [2]int{1, 2}), api.Queues{Classes: []api.Class{small}}, []int{2, 3}, nil, stepsOf([2]int{0, 0}, [2]int{2, 1}, [2]int{9, 8}), []int{0}},
		{rises, 3, jobsOf([2]int{3, 4}, [2]int{4, 9}, [2]int{2, 9}), api.Queues{Classes: []api.Class{small}}, []int{3}, nil, stepsOf([2]int{0, 3}, [2]int{3, 1}, [2]int{9, 6}, [2]int{12, 8}), []int{0}},
		{rises, 3, jobsOf([2]int{4, 9}, [2]int{1, 2}, [2]int{2, 9}, [2]int{1, 9}), api.Queues{Classes: []api.Class{long, of("one", 1, 1, 1, 5)}}, []int{2, 3}, promisesOf([2]int{1, 9}), stepsOf([2]int{0, 3}, [2]int{3, 0}, [2]int{5, 1}, [2]int{9, 2}, [2]int{12, 4}, [2]int{18, 8}), []int{1, 0}},
		// One without a shadow is passed over, and is no head.
		{rises, 8, jobsOf([2]int{9, 1}, [2]int{4, 2}, [2]int{1, 1}, [2]int{1, 1}), api.Queues{Classes: []api.Class{whole("a")}}, []int{3, 4}, promisesOf([2]int{2, 9}), stepsOf([2]int{0, 3}, [2]int{8, 1}, [2]int{9, 4}, [2]int{11, 8}), []int{2}},
		{rises, 8, jobsOf([2]int{9, 1}, [2]int{1, 1}, [2]int{256, 1}), api.Queues{Classes: []api.Class{big, small}}, []int{2}, nil, stepsOf([2]int{0, 3}, [2]int{8, 2}, [2]int{9, 8}), []int{0, 0}},
		// What a class's start takes may make a head of what had room ahead of it.
		{rises, 0, jobsOf([2]int{3, 9}, [2]int{1, 20}), api.Queues{Classes: []api.Class{small, big}}, []int{2}, promisesOf([2]int{1, 9}), stepsOf([2]int{0, 2}, [2]int{9, 4}, [2]int{18, 7}, [2]int{20, 8}), []int{0, 1}},
		// Classes of lengths.
		{rises, 6, jobsOf([2]int{4, 6}, [2]int{1, 7}, [2]int{3, 3}, [2]int{4, 5}, [2]int{1, 5}), api.Queues{Classes: []api.Class{short, long}}, []int{3}, promisesOf([2]int{4, 9}, [2]int{1, 9}), stepsOf([2]int{0, 3}, [2]int{6, 0}, [2]int{14, 4}, [2]int{15, 8}), []int{4, 1}},
		// No job, and none that has room.
		{rises, 4, nil, api.Queues{Classes: []api.Class{small, big}}, nil, nil, rises, []int{0, 0}},
		{stepsOf([2]int{4, 0}), 4, many(3, 1, 1), api.Queues{Classes: []api.Class{small, big}}, nil, nil, stepsOf([2]int{4, 0}), []int{0, 0}},
		// The last times: no head is promised a time behind MaxTime.
		{stepsOf([2]int{0, 0}, [2]int{latest, 3}), latest - 1, jobsOf([2]int{4, 1}, [2]int{3, longest}, [2]int{1, 1}, [2]int{2, 2}), api.Queues{Classes: []api.Class{big, small}}, nil, promisesOf([2]int{2, latest}), stepsOf([2]int{0, 0}, [2]int{latest + longest, 3}), []int{2, 0}},
		{stepsOf([2]int{0, 2}, [2]int{latest, 3}), latest, jobsOf([2]int{2, 2}, [2]int{1, longest}, [2]int{1, 1}, [2]int{3, 1}), api.Queues{Classes: []api.Class{wide("a", 1, 1), wide("b", 2, 2)}}, []int{2, 3}, nil, stepsOf([2]int{0, 2}, [2]int{latest, 1}, [2]int{latest + 1, 2}, [2]int{latest + longest, 3}), []int{0, 0}},
	} {
		plan, left, e := Pass(c.s, c.now, c.jobs, c.x)
		if e != api.OK || !samePlan(plan, api.Plan{Starts: c.starts, Promises: c.promises}) || !slices.Equal(left, c.left) {
			t.Errorf("Pass(%v, %d, %v, %v) = %v, %v, %d; want %v, %v, %v", c.s, c.now, c.jobs, c.x, plan, left, e, c.starts, c.promises, c.left)
		}
		if heads, e := Heads(c.s, c.now, c.jobs, c.x.Classes); e != api.OK || !slices.Equal(heads, c.heads) {
			t.Errorf("Heads(%v, %d, %v, %v) = %v, %d; want %v", c.s, c.now, c.jobs, c.x.Classes, heads, e, c.heads)
		}
		samePass(t, c.s, c.now, c.jobs, c.x)
	}
}

// Mu1: which classes are passed over is told place by place; what is not told is not, and what is told of no class counts for none.
func TestPassedOver(t *testing.T) {
	s := stepsOf([2]int{0, 0}, [2]int{9, greatest})
	jobs := jobsOf([2]int{1, 4}, [2]int{2, 4}, [2]int{3, 4})
	for _, c := range []struct {
		over []bool
		ids  []int
	}{
		{nil, []int{1, 2, 3}}, {[]bool{}, []int{1, 2, 3}}, {[]bool{false}, []int{1, 2, 3}}, {[]bool{false, false, false, true, true}, []int{1, 2, 3}}, {make([]bool, 1000), []int{1, 2, 3}},
		{[]bool{true}, []int{2, 3}}, {[]bool{false, true}, []int{1, 3}}, {[]bool{false, false, true}, []int{1, 2}}, {[]bool{true, false, true}, []int{2}}, {[]bool{true, true, false, true}, []int{3}},
		{[]bool{true, true, true}, nil}, {slices.Repeat([]bool{true}, 1000), nil},
	} {
		x := api.Queues{Classes: rows(3), Over: c.over}
		var want []api.Promise
		for _, id := range c.ids {
			want = append(want, api.Promise{Id: id, At: 9})
		}
		if plan, _, e := Pass(s, 0, jobs, x); e != api.OK || !samePlan(plan, api.Plan{Promises: want}) {
			t.Errorf("%v: %v, %d", c.over, plan, e)
		}
		samePass(t, s, 0, jobs, x)
		samePass(t, s, 9, jobs, x)
	}
	// Jobs of one that is passed over start all the same.
	s = stepsOf([2]int{0, 4}, [2]int{9, 8})
	plan, _, e := Pass(s, 0, jobsOf([2]int{2, 9}, [2]int{1, 5}, [2]int{6, 1}, [2]int{1, 5}), api.Queues{Classes: []api.Class{wide("a", 1, 1), wide("b", 2, 8)}, Over: []bool{true, true}})
	if e != api.OK || !samePlan(plan, api.Plan{Starts: []int{2, 4, 1}}) {
		t.Errorf("passed over: %v, %d", plan, e)
	}
}

// Mu1: steps that may not be, with anything beside them: ErrArg, also ahead of ErrFull and of what is wrong with classes.
func TestWrongSteps(t *testing.T) {
	for _, s := range noSteps() {
		for _, now := range append(noNows(), 0, 1, 3, 5, 9, latest) {
			for _, n := range []int{0, 1, mostJobs, mostJobs + 1} {
				for _, l := range [][]api.Class{nil, rows(20), rows(21), {whole("a"), whole("b")}} {
					refused(t, s, now, many(n, 1, 1), api.Queues{Classes: l}, api.ErrArg)
				}
			}
		}
	}
}

// Mu1: now is not 0 to MaxTime, or ahead of the first step: ErrArg, also ahead of ErrFull; at the first step, and at MaxTime, it may be.
func TestWrongNow(t *testing.T) {
	x := api.Queues{Classes: []api.Class{wide("a", 1, 1), wide("b", 2, greatest)}}
	for _, first := range []int{0, 1, 7, longest, latest - 1, latest} {
		s := stepsOf([2]int{first, 4}, [2]int{latest + 5, 2}, [2]int{never, 3})
		for _, now := range append(noNows(), first-1, first-2) {
			for _, n := range []int{0, 1, mostJobs, mostJobs + 1} {
				refused(t, s, now, many(n, 1, 1), x, api.ErrArg)
				refused(t, s, now, many(n, 1, 1), api.Queues{Classes: rows(21)}, api.ErrArg)
			}
		}
		for _, now := range []int{first, min(first+1, latest), latest} {
			samePass(t, s, now, many(3, 2, 1), x)
			samePass(t, s, now, many(3, 2, longest), x)
		}
	}
}

// Mu1: 100 jobs may be, more may not: each counts, also one of no class; that is told ahead of what is wrong with classes, and of Ids that are alike.
func TestManyJobs(t *testing.T) {
	s := stepsOf([2]int{3, 1}, [2]int{8, 2})
	none := make([]api.Job, mostJobs+1)
	for _, l := range [][]api.Class{nil, {whole("a")}, {wide("a", 1, 1), wide("b", 2, 9)}, rows(20)} {
		x := api.Queues{Classes: l}
		for _, jobs := range [][]api.Job{many(mostJobs+1, 1, 9), many(mostJobs+1, 2, 3), many(mostJobs+1, 0, 0)} {
			for _, n := range []int{0, 1, 2, mostJobs - 1, mostJobs} {
				samePass(t, s, 5, jobs[:n], x)
			}
			refused(t, s, 5, jobs, x, api.ErrFull)
			refused(t, s, 5, slices.Repeat(jobs, 9), x, api.ErrFull)
		}
		refused(t, s, 5, none, x, api.ErrFull)
	}
	for _, c := range noClasses() {
		refused(t, s, 5, many(mostJobs+1, 1, 1), api.Queues{Classes: c.l}, api.ErrFull)
		refused(t, s, 5, none, api.Queues{Classes: c.l}, api.ErrFull)
	}
	// The last one of 100 is a head.
	jobs := append(many(mostJobs-1, 1, 5), api.Job{Id: mostJobs, Width: 2, Est: 1})
	plan, _, e := Pass(s, 5, jobs, api.Queues{Classes: []api.Class{wide("a", 2, 2)}})
	if e != api.OK || !samePlan(plan, api.Plan{Promises: promisesOf([2]int{mostJobs, 8})}) {
		t.Errorf("the last one: %v, %d", plan, e)
	}
}

// Mu1: classes that may not be: 9's error, whatever is passed over, also ahead of Ids that are alike.
func TestWrongClasses(t *testing.T) {
	s := stepsOf([2]int{2, 1}, [2]int{latest, 9})
	same := slices.Repeat(many(1, 2, 3), 4)
	for _, c := range noClasses() {
		if e := queue.Check(c.l); e != c.e {
			t.Fatalf("%v: %d; want %d", c.l, e, c.e)
		}
		for _, over := range [][]bool{nil, {true}, slices.Repeat([]bool{true}, 30)} {
			for _, now := range []int{2, 9, latest} {
				for _, jobs := range [][]api.Job{nil, many(1, 1, 1), many(mostJobs, 2, 1), same} {
					refused(t, s, now, jobs, api.Queues{Classes: c.l, Over: over}, c.e)
				}
			}
			refused(t, s, 1, same, api.Queues{Classes: c.l, Over: over}, api.ErrArg)
		}
	}
}

// Mu1: 20 classes may be: each one's head is promised, in the order of the classes.
func TestManyClasses(t *testing.T) {
	s := stepsOf([2]int{0, 0}, [2]int{9, greatest})
	var jobs []api.Job
	var want []api.Promise
	var ids []int
	for width := 1; width <= mostClasses; width++ {
		for _, more := range []int{0, 1} {
			jobs = append(jobs, api.Job{Id: 2*width + more, Width: width, Est: 7})
		}
		want = append(want, api.Promise{Id: 2 * width, At: 9})
		ids = append(ids, 2*width)
	}
	l := rows(mostClasses)
	for range 2 {
		plan, _, e := Pass(s, 4, jobs, api.Queues{Classes: l})
		heads, f := Heads(s, 4, jobs, l)
		if e != api.OK || f != api.OK || !samePlan(plan, api.Plan{Promises: want}) || !slices.Equal(heads, ids) {
			t.Errorf("%v, %d; %v, %d; want %v", plan, e, heads, f, want)
		}
		samePass(t, s, 4, jobs, api.Queues{Classes: l})
		slices.Reverse(l)
		slices.Reverse(want)
		slices.Reverse(ids)
	}
}

// Mu1: two jobs of one Id: ErrArg, wherever they stand, of whatever classes they are, and also if they may not run; unlike Ids may be any.
func TestSameIds(t *testing.T) {
	s := stepsOf([2]int{0, 3}, [2]int{9, 8})
	classes := []api.Class{wide("a", 1, 2), wide("b", 3, 4)}
	kinds := [][2]int{{1, 1}, {2, 9}, {3, 3}, {4, 1}, {5, 2}, {9, 1}, {0, 0}, {-1, -1}}
	for _, id := range []int{0, 1, -1, 7, math.MinInt, math.MaxInt} {
		for _, a := range kinds {
			for _, b := range kinds {
				jobs := []api.Job{{Id: 90, Width: 1, Est: 1}, {Id: id, Width: a[0], Est: a[1]}, {Id: 91, Width: 4, Est: 9}, {Id: id, Width: b[0], Est: b[1]}, {Id: 92, Width: 2, Est: 2}}
				for _, l := range [][]api.Class{nil, classes, classes[:1], classes[1:]} {
					for _, over := range [][]bool{nil, {true, true}} {
						x := api.Queues{Classes: l, Over: over}
						refused(t, s, 3, jobs, x, api.ErrArg)
						refused(t, s, 3, jobs[1:4], x, api.ErrArg)
						samePass(t, s, 3, jobs[:3], x)
						samePass(t, s, 3, jobs[2:], x)
					}
				}
			}
		}
	}
	jobs := many(mostJobs, 1, 1)
	for n := range mostJobs - 1 {
		jobs[mostJobs-1].Id = jobs[n].Id
		refused(t, s, 3, jobs, api.Queues{Classes: classes}, api.ErrArg)
	}
}

// Mu1: jobs that may not be by Width or Est are of no class, and have neither room nor a shadow: they are passed over without an error.
func TestWrongJobs(t *testing.T) {
	wrong := noJobs()
	good := jobsOf([2]int{greatest, 2}, [2]int{1, 1}, [2]int{2, 9}, [2]int{2, 1})
	for _, l := range [][]api.Class{nil, {whole("a")}, {wide("a", 1, 1), wide("b", 2, greatest)}} {
		x := api.Queues{Classes: l}
		for _, s := range [][]api.Step{stepsOf([2]int{0, greatest}), stepsOf([2]int{0, 0}), stepsOf([2]int{0, 0}, [2]int{9, greatest}), stepsOf([2]int{0, greatest}, [2]int{9, 0})} {
			for _, now := range []int{0, 9, latest} {
				plan, left, e := Pass(s, now, wrong, x)
				if e != api.OK || !samePlan(plan, api.Plan{}) || !slices.Equal(left, s) {
					t.Errorf("Pass(%v, %d, wrong ones, %v) = %v, %v, %d", s, now, x, plan, left, e)
				}
				samePass(t, s, now, slices.Concat(wrong[:20], good, wrong[20:]), x)
			}
		}
	}
	plan, _, _ := Pass(stepsOf([2]int{0, 1}, [2]int{9, greatest}), 2, slices.Concat(wrong, good), api.Queues{Classes: []api.Class{whole("a")}})
	if !samePlan(plan, api.Plan{Starts: []int{2}, Promises: promisesOf([2]int{1, 9})}) {
		t.Errorf("behind wrong ones: %v", plan)
	}
}

// Mu1: jobs are looked at as they stand, by Id, Width and Est alone; Ids may be any.
func TestOtherFields(t *testing.T) {
	s := stepsOf([2]int{0, 2}, [2]int{6, 7})
	odd := []api.Job{
		{Id: 7, User: "bob", Width: 1, Est: 4, Prio: 1, Sub: 90, State: api.JobDone, Start: 4, End: 5},
		{Id: 0, User: "bob", Width: 3, Est: 4, Prio: 9, Sub: 2, State: api.JobHeld},
		{Id: -1, Width: 7, Est: 3, Prio: -5, State: 77, Start: 40, End: 2},
		{Id: 5, Width: 7, Est: 3, Prio: 1000},
		{Id: math.MinInt, Width: 1, Est: 1, Sub: latest},
		{Id: math.MaxInt, Width: 1, Est: 3, State: api.JobRunning},
	}
	x := api.Queues{Classes: []api.Class{wide("a", 4, 7), wide("b", 3, 3), wide("c", 2, 2)}}
	for _, c := range []struct {
		starts   []int
		promises []api.Promise
		heads    []int
	}{
		{[]int{math.MinInt, math.MaxInt}, promisesOf([2]int{-1, 6}, [2]int{0, 9}), []int{-1, 0, 0}},
		{[]int{math.MaxInt, math.MinInt}, promisesOf([2]int{5, 6}, [2]int{0, 9}), []int{5, 0, 0}},
	} {
		plan, _, e := Pass(s, 3, odd, x)
		heads, f := Heads(s, 3, odd, x.Classes)
		if e != api.OK || f != api.OK || !samePlan(plan, api.Plan{Starts: c.starts, Promises: c.promises}) || !slices.Equal(heads, c.heads) {
			t.Errorf("%v, %d; %v, %d; want %v", plan, e, heads, f, c)
		}
		samePass(t, s, 3, odd, x)
		slices.Reverse(odd)
	}
}

// Mu1, Mu2: all lists of three small jobs by small steps and small classes, by definition.
func TestSmallByDefinition(t *testing.T) {
	kinds := [][2]int{{1, 1}, {1, 3}, {2, 1}, {2, 3}, {3, 1}, {3, 3}, {6, 1}}
	a, b, c := of("a", 1, 1, 1, 9), of("b", 2, 6, 1, 2), of("c", 2, 6, 3, 9)
	queues := []api.Queues{
		{}, {Classes: []api.Class{a, b, c}}, {Classes: []api.Class{c, b, a}}, {Classes: []api.Class{b, a}}, {Classes: []api.Class{whole("a")}},
		{Classes: []api.Class{c, a}, Over: []bool{true}}, {Classes: []api.Class{a, b, c}, Over: []bool{false, true, false}}, {Classes: []api.Class{b, c}, Over: []bool{true, true}},
	}
	for _, s := range append(some([]int{0, 1, 4}, 0, 1, 2, 3), some([]int{1, 3, 6}, 0, 2, 5)...) {
		for _, now := range []int{1, 3, 4} {
			for n := range len(kinds) * len(kinds) * len(kinds) {
				jobs := jobsOf(kinds[n%len(kinds)], kinds[n/len(kinds)%len(kinds)], kinds[n/len(kinds)/len(kinds)])
				samePass(t, s, now, jobs, queues[n%len(queues)])
			}
			for _, x := range queues {
				samePass(t, s, now, jobsOf(kinds...), x)
			}
		}
	}
}

// Mu1, Mu2: steps at the last times, and of the most that may be free, with jobs and classes at edges, by definition.
func TestEndsByDefinition(t *testing.T) {
	var kinds [][2]int
	for _, width := range []int{1, greatest - 1, greatest} {
		for _, est := range []int{1, 2, longest} {
			kinds = append(kinds, [2]int{width, est})
		}
	}
	queues := []api.Queues{
		{Classes: []api.Class{whole("a")}}, {Classes: []api.Class{wide("a", greatest, greatest), wide("b", 1, greatest-1)}}, {Classes: []api.Class{of("a", 1, greatest, longest, longest), of("b", 1, greatest, 1, longest-1)}}, {Classes: []api.Class{of("a", 1, greatest, 2, longest), of("b", greatest, greatest, 1, 1)}, Over: []bool{true}},
	}
	l := some([]int{0, longest, latest, latest + 1}, 0, 1, greatest)
	l = append(l, some([]int{latest - 1, latest, latest + longest, never}, 0, greatest-1, greatest)...)
	for n, s := range l {
		for _, now := range []int{0, longest - 1, latest - longest, latest - 1, latest} {
			if now < s[0].At {
				continue
			}
			for _, a := range kinds {
				for _, b := range kinds {
					samePass(t, s, now, jobsOf(a, b, a), queues[n%len(queues)])
				}
			}
		}
	}
}

// Mu1, Mu2: longer lists by longer steps, also at the last times, by definition.
func TestMixedByDefinition(t *testing.T) {
	both := 0
	for seed := range 800 {
		s, now, jobs, x := caseOf(seed, 40)
		next := mixed(seed + 5000)
		if next(3) == 0 {
			first := []int{7, latest - 30, latest}[next(3)]
			s = mixedSteps(next, first, 1+next(9), []int{4, 20, greatest}[next(3)])
			now = min(first+next(30), latest)
		}
		samePass(t, s, now, jobs, x)
		if plan, heads, _ := meantPass(s, now, jobs, x); len(plan.Promises) > 1 && len(plan.Starts) > 1 && slices.Contains(heads, 0) {
			both++
		}
	}
	if both < 60 {
		t.Errorf("%d passes with more than one start and promise, and a class without a head", both)
	}
}

// Mu1: passes against a table of times, one by one: what is left is what the steps tell.
func TestTimeByTime(t *testing.T) {
	const times = 900
	behind := 0
	for seed := range 300 {
		s, now, jobs, x := caseOf(seed, 40)
		plan, left, e := Pass(s, now, jobs, x)
		free := spots(s, times)
		var want api.Plan
		take := func(at int, j api.Job) {
			for k := at; k < at+j.Est; k++ {
				free[k] -= j.Width
			}
		}
		split, _, _ := queue.Split(x.Classes, jobs)
		for n, l := range split {
			for len(l) > 0 && firstSpot(free, now, l[0]) <= now {
				if firstSpot(free, now, l[0]) == now {
					want.Starts = append(want.Starts, l[0].Id)
					take(now, l[0])
				}
				l = l[1:]
			}
			if len(l) > 0 && (n >= len(x.Over) || !x.Over[n]) {
				at := firstSpot(free, now, l[0])
				want.Promises = append(want.Promises, api.Promise{Id: l[0].Id, At: at})
				take(at, l[0])
			}
		}
		first := len(want.Starts)
		for _, j := range jobs {
			isPromised := slices.ContainsFunc(want.Promises, func(p api.Promise) bool { return p.Id == j.Id })
			if !isPromised && !slices.Contains(want.Starts[:first], j.Id) && firstSpot(free, now, j) == now {
				want.Starts = append(want.Starts, j.Id)
				take(now, j)
				behind++
			}
		}
		if e != api.OK || !samePlan(plan, want) || !slices.Equal(spots(left, times), free) {
			t.Fatalf("Pass(%v, %d, %v, %v) = %v, %v, %d; time by time: %v", s, now, jobs, x, plan, left, e, want)
		}
	}
	if behind < 150 {
		t.Errorf("%d started behind heads", behind)
	}
}

// Mu2: a head is the one of its class that is promised, if none is passed over.
func TestHeadsArePromised(t *testing.T) {
	for seed := range 300 {
		s, now, jobs, x := caseOf(seed, 40)
		heads, e := Heads(s, now, jobs, x.Classes)
		plan, _, _ := Pass(s, now, jobs, api.Queues{Classes: x.Classes})
		if e != api.OK || len(heads) != len(x.Classes) {
			t.Fatalf("Heads(%v, %d, %v, %v) = %v, %d", s, now, jobs, x.Classes, heads, e)
		}
		var ids []int
		for n, id := range heads {
			if id == 0 {
				continue
			}
			if !isOf(x.Classes[n], jobOf(jobs, id)) {
				t.Fatalf("Heads(%v, %d, %v, %v) = %v", s, now, jobs, x.Classes, heads)
			}
			ids = append(ids, id)
		}
		for n, p := range plan.Promises {
			if n >= len(ids) || p.Id != ids[n] || len(plan.Promises) != len(ids) {
				t.Fatalf("Heads(%v, %d, %v, %v) = %v; promised: %v", s, now, jobs, x.Classes, heads, plan)
			}
		}
	}
}

// Mu3: what is started behind the heads delays no head: without those behind it, wherever they stand, each has the same promise.
func TestBehindDelaysNoHead(t *testing.T) {
	behind := 0
	for seed := range 400 {
		s, now, jobs, x := caseOf(seed, 40)
		plan, _, _ := Pass(s, now, jobs, x)
		_, heads, _ := meantPass(s, now, jobs, x)
		var ahead []api.Job
		passed := make([]bool, len(x.Classes))
		for _, j := range jobs {
			n, ok := queue.Find(x.Classes, j.Width, j.Est)
			if !ok || passed[n] {
				continue
			}
			ahead = append(ahead, j)
			passed[n] = j.Id == heads[n]
		}
		alone, _, e := Pass(s, now, ahead, x)
		starts := len(alone.Starts)
		if e != api.OK || !slices.Equal(alone.Promises, plan.Promises) || starts > len(plan.Starts) || !slices.Equal(alone.Starts, plan.Starts[:starts]) {
			t.Fatalf("Pass(%v, %d, %v, %v): %v; without those behind: %v", s, now, jobs, x, plan, alone)
		}
		if len(plan.Promises) > 0 && len(plan.Starts) > starts {
			behind++
		}
	}
	if behind < 100 {
		t.Errorf("%d with some that start behind the heads", behind)
	}
}

// Mu3: with one class that has all jobs it is EASY; without a head, if that one is passed over, as without classes, and with one that has none.
func TestOneClassIsEasy(t *testing.T) {
	heads := 0
	same := func(s []api.Step, now int, jobs []api.Job, x api.Queues, head bool) {
		t.Helper()
		plan, left, e := Pass(s, now, jobs, x)
		want, then, f := easy.Pass(s, now, jobs, head)
		if e != api.OK || f != api.OK || !samePlan(plan, want) || !slices.Equal(left, then) {
			t.Fatalf("Pass(%v, %d, %v, %v) = %v, %v, %d; EASY: %v, %v", s, now, jobs, x, plan, left, e, want, then)
		}
		heads += len(want.Promises)
	}
	for seed := range 400 {
		s, now, jobs, _ := caseOf(seed, 40)
		for _, l := range [][]api.Class{{whole("a")}, {of("a", 1, 15, 1, 15)}, {wide("none", greatest, greatest), wide("all", 1, greatest-1)}, {of("all", 1, greatest, 1, 99), of("none", 1, greatest, 100, longest)}} {
			same(s, now, jobs, api.Queues{Classes: l}, true)
			same(s, now, jobs, api.Queues{Classes: l, Over: []bool{true, true}}, false)
		}
		same(s, now, jobs, api.Queues{}, false)
		same(s, now, jobs, api.Queues{Classes: []api.Class{wide("none", greatest, greatest)}}, false)
	}
	if heads < 800 {
		t.Errorf("%d heads", heads)
	}
}

// Mu1, Mu3: what is started and promised has room together, no job twice, no more promises than classes, none of those that are left has room.
func TestRoomTogether(t *testing.T) {
	for seed := range 400 {
		s, now, jobs, x := caseOf(seed, 40)
		plan, left, _ := Pass(s, now, jobs, x)
		var taken []api.Busy
		var ids []int
		for _, id := range plan.Starts {
			taken = append(taken, run(now, jobOf(jobs, id)))
			ids = append(ids, id)
		}
		for _, p := range plan.Promises {
			taken = append(taken, run(p.At, jobOf(jobs, p.Id)))
			ids = append(ids, p.Id)
			if p.At <= now || p.Slack != 0 {
				t.Fatalf("Pass(%v, %d, %v, %v): %v", s, now, jobs, x, plan)
			}
		}
		slices.Sort(ids)
		if then := stepsThen(s, taken); !slices.Equal(then, left) || len(slices.Compact(ids)) != len(taken) || len(plan.Promises) > len(x.Classes) {
			t.Fatalf("Pass(%v, %d, %v, %v): %v, %v; then %v", s, now, jobs, x, plan, left, then)
		}
		for _, a := range left {
			if a.Free < 0 {
				t.Fatalf("Pass(%v, %d, %v, %v): %v", s, now, jobs, x, left)
			}
		}
		for _, j := range jobs {
			at, ok := meantShadow(left, nil, now, j)
			if ok && at == now && !slices.Contains(ids, j.Id) {
				t.Fatalf("Pass(%v, %d, %v, %v): %v; %d has room", s, now, jobs, x, plan, j.Id)
			}
		}
	}
}

// R3: nothing is written to what is handed in, and answers are new memory, also where nothing is laid.
func TestNewMemory(t *testing.T) {
	s := stepsOf([2]int{4, 3}, [2]int{9, 8}, [2]int{12, 1})
	jobs := jobsOf([2]int{1, 20}, [2]int{2, 5}, [2]int{3, 3}, [2]int{4, 2}, [2]int{9, 9})
	x := api.Queues{Classes: []api.Class{wide("b", 4, 8), wide("a", 1, 3), whole("c")}[:2], Over: []bool{false, false, true}[:2]}
	wasS, wasJobs, wasClasses, wasOver := slices.Clone(s), slices.Clone(jobs), slices.Clone(x.Classes[:3]), slices.Clone(x.Over[:3])
	unturned := func() bool {
		return slices.Equal(s, wasS) && slices.Equal(jobs, wasJobs) && slices.Equal(x.Classes[:3], wasClasses) && slices.Equal(x.Over[:3], wasOver)
	}
	plan, left, _ := Pass(s[:2], 5, jobs[:4], x)
	heads, _ := Heads(s[:2], 5, jobs[:4], x.Classes)
	_, none, _ := Pass(s[:2], 5, jobs[4:], x)
	_, empty, _ := Pass(s[:2], 5, nil, x)
	_, classless, _ := Pass(s[:2], 5, nil, api.Queues{})
	if !unturned() {
		t.Fatalf("turned: %v, %v, %v", s, jobs, x)
	}
	for n, l := range [][]api.Step{left, none, empty, classless} {
		if len(l) == 0 {
			t.Fatalf("nothing from call %d", n)
		}
		l[0].Free = 50
		_ = append(l, api.Step{At: 51})
		if !unturned() {
			t.Fatalf("the answer of call %d is shared: %v", n, s)
		}
	}
	want := api.Plan{Starts: []int{1, 2}, Promises: promisesOf([2]int{4, 9}, [2]int{3, 10})}
	if !samePlan(plan, want) || !slices.Equal(heads, []int{4, 3}) {
		t.Fatalf("%v, %v", plan, heads)
	}
	plan.Starts[0], plan.Promises[0].At, heads[0] = 50, 50, 50
	again, _, _ := Pass(s[:2], 5, jobs[:4], x)
	if more, _ := Heads(s[:2], 5, jobs[:4], x.Classes); !samePlan(again, want) || !slices.Equal(more, []int{4, 3}) || !unturned() {
		t.Errorf("an answer has turned: %v, %v, %v", again, more, jobs)
	}
}

// Mu1, Mu2 of any steps, times, jobs and classes: go test -run xxx -fuzz=FuzzPasses ./multi.
func FuzzPasses(f *testing.F) {
	f.Add([]byte{3, 9, 8}, []byte{2, 19, 1, 4, 5, 6}, []byte{1, 2, 1, 99, 3, 9, 1, 99}, 0, 5, 3, 20, byte(0))
	f.Add([]byte{255, 1, 254, 2, 255}, []byte{255, 255, 0, 0, 128, 3}, []byte{1, 255, 1, 255}, latest-3, latest, greatest, longest, byte(1))
	f.Add([]byte{4}, []byte{1, 1, 1}, []byte{4, 1, 0, 3, 1, 1, 1, 1}, 0, -5, math.MinInt, math.MaxInt, byte(2))
	f.Fuzz(func(t *testing.T, turns, some, bounds []byte, first, now, width, est int, over byte) {
		// What is free, and behind it how long it stays so, in turn.
		var s []api.Step
		from := first
		for n, b := range turns {
			if n%2 == 1 {
				from += 1 + int(b)
			} else if len(s) == 0 || s[len(s)-1].Free != int(b) {
				s = append(s, api.Step{At: from, Free: int(b)})
			}
		}
		jobs := []api.Job{{Id: 1, Width: width, Est: est}}
		for n := 1; n < len(some); n += 2 {
			jobs = append(jobs, api.Job{Id: 1 + n, Width: int(some[n-1]), Est: int(int8(some[n]))})
		}
		var x api.Queues
		for n := 3; n < len(bounds) && n < 100; n += 4 {
			x.Classes = append(x.Classes, of(nameOf(n/4), int(bounds[n-3]), int(bounds[n-2]), int(bounds[n-1]), int(bounds[n])))
			x.Over = append(x.Over, over>>(n/4%8)%2 == 1)
		}
		if len(s) == 0 || first < 0 || first > latest || now < first || now > latest {
			refused(t, s, now, jobs, x, api.ErrArg)
		} else if len(jobs) > mostJobs {
			refused(t, s, now, jobs, x, api.ErrFull)
		} else if e := queue.Check(x.Classes); e != api.OK {
			refused(t, s, now, jobs, x, e)
		} else if len(s) < 100 {
			samePass(t, s, now, jobs, x)
			jobs[0].Id = jobs[len(jobs)-1].Id
			if len(jobs) > 1 {
				refused(t, s, now, jobs, x, api.ErrArg)
			}
		}
	})
}
