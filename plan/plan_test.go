package plan

import (
	"math"
	"slices"
	"testing"

	"stint/api"
	"stint/cons"
	"stint/easy"
	"stint/los"
	"stint/multi"
	"stint/queue"
	"stint/sel"
	"stint/shadow"
)

const (
	greatest    = 256
	latest      = api.MaxTime
	longest     = api.MaxEst
	never       = api.Never
	mostJobs    = 100
	mostK       = 32
	mostRatio   = 1 << 20
	mostClasses = 20
)

// kinds are all kinds of policies.
func kinds() []int {
	return []int{api.PolEasy, api.PolCons, api.PolLos, api.PolSlack, api.PolSel, api.PolMulti}
}

// noKinds are kinds that are none.
func noKinds() []int {
	return []int{math.MinInt, -6, -1, 0, 7, 8, 255, 257, 1 << 32, 1<<32 + 1, math.MaxInt}
}

// noKs are how many jobs may not be looked at.
func noKs() []int {
	return []int{math.MinInt, -mostK, -1, 0, mostK + 1, 64, mostJobs, 1 << 32, 1<<32 + 1, math.MaxInt}
}

// noRatios are ratios that may not be.
func noRatios() []api.Ratio {
	var l []api.Ratio
	for _, num := range []int{math.MinInt, -mostRatio, -1, mostRatio + 1, 1 << 32, 1<<32 + 1, math.MaxInt} {
		l = append(l, api.Ratio{Num: num, Den: 1}, api.Ratio{Num: num, Den: mostRatio}, api.Ratio{Num: num})
	}
	for _, den := range []int{math.MinInt, -mostRatio, -1, 0, mostRatio + 1, 1 << 32, 1<<32 + 1, math.MaxInt} {
		l = append(l, api.Ratio{Num: 0, Den: den}, api.Ratio{Num: 1, Den: den}, api.Ratio{Num: mostRatio, Den: den})
	}
	return l
}

// ratios are ratios that may be.
func ratios() []api.Ratio {
	var l []api.Ratio
	for _, num := range []int{0, 1, 2, 3, 7, mostRatio - 1, mostRatio} {
		for _, den := range []int{1, 2, 3, 5, mostRatio - 1, mostRatio} {
			l = append(l, api.Ratio{Num: num, Den: den})
		}
	}
	return l
}

// wide is a class of all lengths and of widths within these.
func wide(name string, least, most int) api.Class {
	return api.Class{Name: name, MinW: least, MaxW: most, MinE: 1, MaxE: longest}
}

// rows are so many classes of one width each, from 1 on.
func rows(n int) []api.Class {
	var l []api.Class
	for k := range n {
		l = append(l, wide("abcdefghijklmnopqrstuvwxyz"[k:k+1], k+1, k+1))
	}
	return l
}

// noClasses are lists of classes that may not be, and what is wrong with each.
func noClasses() []struct {
	l []api.Class
	e api.Errno
} {
	return []struct {
		l []api.Class
		e api.Errno
	}{
		{[]api.Class{{}}, api.ErrArg}, {[]api.Class{wide("A", 1, 4)}, api.ErrArg}, {[]api.Class{wide("a", 0, 4)}, api.ErrArg}, {[]api.Class{wide("a", 1, greatest+1)}, api.ErrArg}, {append(rows(19), api.Class{}), api.ErrArg},
		{[]api.Class{wide("a", 1, 4), wide("a", 5, 8)}, api.ErrThere}, {[]api.Class{wide("a", 1, 4), wide("b", 4, 8)}, api.ErrThere}, {append(rows(19), wide("z", 19, greatest)), api.ErrThere},
		{rows(mostClasses + 1), api.ErrFull}, {make([]api.Class, mostClasses+1), api.ErrFull}, {slices.Repeat(rows(20), 9), api.ErrFull},
	}
}

// of is a policy of this kind that may be: it looks at 5, the threshold is 2, the grace a half.
func of(kind int) api.Policy {
	return api.Policy{Kind: kind, K: 5, Limit: api.Ratio{Num: 2, Den: 1}, Grace: api.Ratio{Num: 1, Den: 2}}
}

// mayBeMeant tells by definition whether a policy may be but for its classes.
func mayBeMeant(p api.Policy) bool {
	for _, x := range []api.Ratio{p.Limit, p.Grace} {
		if x.Num < 0 || x.Num > mostRatio || x.Den < 1 || x.Den > mostRatio {
			return false
		}
	}
	return slices.Contains(kinds(), p.Kind) && 1 <= p.K && p.K <= mostK
}

// jobsOf are jobs of Ids from 1 on, of widths and lengths, by pairs.
func jobsOf(pairs ...[2]int) []api.Job {
	var l []api.Job
	for n, p := range pairs {
		l = append(l, api.Job{Id: n + 1, Width: p[0], Est: p[1]})
	}
	return l
}

// many is so many jobs of Ids from 1 on, of a width and a length.
func many(n, width, est int) []api.Job {
	var l []api.Job
	for id := 1; id <= n; id++ {
		l = append(l, api.Job{Id: id, Width: width, Est: est})
	}
	return l
}

// stepsOf are steps of times and how many are free, by pairs.
func stepsOf(pairs ...[2]int) []api.Step {
	var l []api.Step
	for _, p := range pairs {
		l = append(l, api.Step{At: p[0], Free: p[1]})
	}
	return l
}

// promisesOf are promises of Ids, times and slacks, by threes.
func promisesOf(threes ...[3]int) []api.Promise {
	var l []api.Promise
	for _, p := range threes {
		l = append(l, api.Promise{Id: p[0], At: p[1], Slack: p[2]})
	}
	return l
}

// jobOf is the job of an Id.
func jobOf(jobs []api.Job, id int) api.Job {
	return jobs[slices.IndexFunc(jobs, func(j api.Job) bool { return j.Id == id })]
}

// idsOf are the Ids of all that is started and promised.
func idsOf(plan api.Plan) []int {
	l := slices.Clone(plan.Starts)
	for _, p := range plan.Promises {
		l = append(l, p.Id)
	}
	return l
}

// widths is how wide jobs of Ids are together.
func widths(jobs []api.Job, ids []int) int {
	all := 0
	for _, id := range ids {
		all += jobOf(jobs, id).Width
	}
	return all
}

// freeAt is by definition how many are free at a time, by steps and what is taken beside them.
func freeAt(s []api.Step, taken []api.Busy, t int) int {
	free := 0
	for _, a := range s {
		if a.At <= t {
			free = a.Free
		}
	}
	for _, b := range taken {
		if b.From <= t && t < b.To {
			free -= b.Width
		}
	}
	return free
}

// takenBy is what is taken by all that a plan starts and promises.
func takenBy(plan api.Plan, now int, jobs []api.Job) []api.Busy {
	var l []api.Busy
	put := func(id, at int) {
		j := jobOf(jobs, id)
		l = append(l, api.Busy{From: at, To: at + j.Est, Width: j.Width})
	}
	for _, id := range plan.Starts {
		put(id, now)
	}
	for _, p := range plan.Promises {
		put(p.Id, p.At)
	}
	return l
}

// stepsThen is by definition the steps with what is taken.
func stepsThen(s []api.Step, taken []api.Busy) []api.Step {
	var times []int
	for _, a := range s {
		times = append(times, a.At)
	}
	for _, b := range taken {
		times = append(times, b.From, b.To)
	}
	slices.Sort(times)
	var l []api.Step
	for _, t := range slices.Compact(times) {
		free := freeAt(s, taken, t)
		if len(l) == 0 || l[len(l)-1].Free != free {
			l = append(l, api.Step{At: t, Free: free})
		}
	}
	return l
}

// samePlan tells whether plans are alike.
func samePlan(a, b api.Plan) bool {
	return slices.Equal(a.Starts, b.Starts) && slices.Equal(a.Promises, b.Promises)
}

// meantMake is Make by definition, of what may be: the pass of the layer that the policy names.
func meantMake(s []api.Step, now int, jobs []api.Job, p api.Policy, h api.Held) (api.Plan, []api.Step) {
	var plan api.Plan
	var left []api.Step
	switch p.Kind {
	case api.PolEasy:
		plan, left, _ = easy.Pass(s, now, jobs, !h.Some)
	case api.PolCons, api.PolSlack:
		plan, left, _ = cons.Pass(s, now, jobs)
	case api.PolLos:
		plan, left, _ = los.Pass(s, now, jobs, api.Ahead{K: p.K, Head: !h.Some})
	case api.PolSel:
		plan, left, _ = sel.Pass(s, now, jobs, p.Limit)
	case api.PolMulti:
		plan, left, _ = multi.Pass(s, now, jobs, api.Queues{Classes: p.Classes, Over: h.Over})
	}
	if p.Kind == api.PolSlack {
		for n, given := range plan.Promises {
			// Est and Num together are 60 bits at most.
			all := jobOf(jobs, given.Id).Est * p.Grace.Num
			plan.Promises[n].Slack = min(all/p.Grace.Den+min(all%p.Grace.Den, 1), latest)
		}
	}
	return plan, left
}

// same tells what is wrong with a plan of what may be.
func same(t *testing.T, s []api.Step, now int, jobs []api.Job, p api.Policy, h api.Held) {
	t.Helper()
	plan, left, e := Make(s, now, jobs, p, h)
	want, then := meantMake(s, now, jobs, p, h)
	if e != api.OK || !samePlan(plan, want) || !slices.Equal(left, then) {
		t.Fatalf("Make(%v, %d, %v, %v, %v) = %v, %v, %d; meant: %v, %v", s, now, jobs, p, h, plan, left, e, want, then)
	}
}

// refused tells what is wrong with a plan that has an error, whomever promises have already.
func refused(t *testing.T, s []api.Step, now int, jobs []api.Job, p api.Policy, want api.Errno) {
	t.Helper()
	for _, h := range []api.Held{{}, {Some: true}, {Some: true, Over: []bool{true}}} {
		plan, left, e := Make(s, now, jobs, p, h)
		if e != want || plan.Starts != nil || plan.Promises != nil || left != nil {
			t.Errorf("Make(%v, %d, %d jobs, %v, %v) = %v, %v, %d; want %d", s, now, len(jobs), p, h, plan, left, e, want)
		}
	}
}

// mixed is numbers that follow a rule, each below what is asked.
func mixed(seed int) func(below int) int {
	x := uint64(seed)*2654435761 + 12345
	return func(below int) int {
		x ^= x << 13
		x ^= x >> 7
		x ^= x << 17
		return int(x >> 1 % uint64(below))
	}
}

// mixedPolicy is some policy of a kind that may be, and whom promises have already.
func mixedPolicy(next func(below int) int, kind int) (api.Policy, api.Held) {
	p := api.Policy{Kind: kind, K: 1 + next(mostK), Limit: api.Ratio{Num: 1 + next(9), Den: 1 + next(4)}, Grace: api.Ratio{Num: next(9), Den: 1 + next(5)}}
	var h api.Held
	h.Some = next(3) == 0
	for from := 1; from <= 16; {
		to := min(from+next(8), 16)
		p.Classes = append(p.Classes, wide("abcdefghijklmnopqrstuvwxyz"[from-1:from], from, to))
		from = to + 1
	}
	for range next(len(p.Classes) + 3) {
		h.Over = append(h.Over, next(3) == 0)
	}
	return p, h
}

// mixedCase is steps, at whose end most jobs have room, a time, and jobs of unlike Ids.
func mixedCase(seed, n int) (s []api.Step, now int, jobs []api.Job) {
	next := mixed(seed)
	widest, first := 3+next(12), 0
	if next(4) == 0 {
		first = []int{7, longest, latest - 30, latest - 70}[next(4)]
	}
	at := first
	for range 1 + next(8) {
		if free := next(widest + 1); len(s) == 0 || s[len(s)-1].Free != free {
			s = append(s, api.Step{At: at, Free: free})
		}
		at += 1 + next(6)
	}
	s = append(s, api.Step{At: first + 60, Free: widest + 1})
	now = min(first+next(40), latest)
	for id := 1; id <= 1+next(n); id++ {
		j := api.Job{Id: id, User: "ann", Width: 1 + next(widest+2), Est: 1 + next(15), Prio: next(9), Sub: max(now-next(30), 0), State: api.JobQueued}
		jobs = slices.Insert(jobs, next(id), j)
	}
	return s, now, jobs
}

// Pl1: each kind has its word, and nothing else has one.
func TestWord(t *testing.T) {
	for n, want := range []string{"easy", "cons", "los", "slack", "sel", "multi"} {
		if w := Word(n + 1); w != want || kinds()[n] != n+1 {
			t.Errorf("Word(%d) = %q; want %q", n+1, w, want)
		}
	}
	for _, kind := range noKinds() {
		if w := Word(kind); w != "" {
			t.Errorf("Word(%d) = %q", kind, w)
		}
	}
}

// Pl1: a policy of each kind may be, up to the edges of its numbers; beyond them ErrArg, whatever the kind has need of.
func TestCheck(t *testing.T) {
	if e := Check(api.Policy{}); e != api.ErrArg {
		t.Errorf("the zero policy: %d", e)
	}
	wrong := func(p api.Policy) {
		t.Helper()
		if e := Check(p); e != api.ErrArg || mayBeMeant(p) {
			t.Errorf("Check(%v) = %d", p, e)
		}
	}
	for _, kind := range kinds() {
		for k := 1; k <= mostK; k++ {
			p := of(kind)
			p.K = k
			if e := Check(p); e != api.OK {
				t.Errorf("Check(%v) = %d", p, e)
			}
		}
		for _, k := range noKs() {
			p := of(kind)
			p.K = k
			wrong(p)
		}
		for _, x := range ratios() {
			for _, y := range ratios() {
				p := of(kind)
				p.Limit, p.Grace = x, y
				if e := Check(p); e != api.OK {
					t.Errorf("Check(%v) = %d", p, e)
				}
			}
		}
		for _, x := range noRatios() {
			p, q := of(kind), of(kind)
			p.Limit, q.Grace = x, x
			wrong(p)
			wrong(q)
		}
	}
	for _, kind := range noKinds() {
		wrong(of(kind))
	}
}

// Pl1: 9's error of the classes, whatever the kind, but behind what is wrong with the numbers.
func TestCheckClasses(t *testing.T) {
	for _, kind := range kinds() {
		for _, l := range [][]api.Class{nil, {}, {wide("a", 1, greatest)}, rows(2), rows(mostClasses)} {
			p := of(kind)
			p.Classes = l
			if e := Check(p); e != api.OK {
				t.Errorf("Check(%v) = %d", p, e)
			}
		}
		for _, c := range noClasses() {
			p := of(kind)
			p.Classes = c.l
			if e := Check(p); e != c.e || queue.Check(c.l) != c.e {
				t.Errorf("Check(%v) = %d; want %d", p, e, c.e)
			}
			for _, turn := range []func(*api.Policy){
				func(p *api.Policy) { p.Kind = 0 }, func(p *api.Policy) { p.Kind = 7 }, func(p *api.Policy) { p.K = 0 }, func(p *api.Policy) { p.K = mostK + 1 },
				func(p *api.Policy) { p.Limit.Num = -1 }, func(p *api.Policy) { p.Limit.Den = 0 }, func(p *api.Policy) { p.Grace.Num = mostRatio + 1 }, func(p *api.Policy) { p.Grace.Den = mostRatio + 1 },
			} {
				q := p
				turn(&q)
				if e := Check(q); e != api.ErrArg {
					t.Errorf("Check(%v) = %d", q, e)
				}
			}
		}
	}
}

// Pl1: slacks by hand: cut up, and MaxTime at most.
func TestGrace(t *testing.T) {
	for _, c := range []struct{ num, den, est, want int }{
		{1, 2, 7, 4}, {1, 2, 8, 4}, {1, 2, 1, 1}, {0, 1, 9, 0}, {0, mostRatio, longest, 0}, {1, 1, 1, 1}, {3, 1, 5, 15}, {2, 3, 5, 4}, {1, mostRatio, 1, 1}, {1, mostRatio, longest, mostRatio}, {1, mostRatio, mostRatio + 1, 2},
		{mostRatio, mostRatio, longest, longest}, {1, 1, longest, longest}, {1 << 10, 1, longest, latest}, {1<<10 - 1, 1, longest, latest - longest}, {1<<10 + 1, 1, longest, latest}, {1 << 10, 1, longest - 1, latest - 1<<10}, {1<<11 + 1, 2, longest, latest}, {1<<10 + 1, 1, longest - 1<<30, latest - 1<<30},
		{mostRatio, 1, longest, latest}, {mostRatio, 1, 1, mostRatio}, {mostRatio, 1, 1 << 30, latest}, {mostRatio, 1, 1<<30 + 1, latest}, {mostRatio, 1, 1<<30 - 1, latest - mostRatio}, {mostRatio, 1<<10 - 1, longest, latest}, {mostRatio, 1<<10 + 1, longest, 1124801467909120},
	} {
		p := api.Policy{Grace: api.Ratio{Num: c.num, Den: c.den}}
		if n := Grace(p, c.est); n != c.want {
			t.Errorf("Grace(%d by %d, %d) = %d; want %d", c.num, c.den, c.est, n, c.want)
		}
	}
}

// Pl1: a slack is the least number that is not less than Est times Grace, MaxTime at most; by the grace alone, whatever else the policy has.
func TestGraceByDefinition(t *testing.T) {
	ests := []int{1, 2, 3, 4, 5, 6, 7, 99, 1<<30 - 1, 1 << 30, 1<<30 + 1, longest - 1, longest}
	for _, x := range ratios() {
		for _, est := range ests {
			for _, p := range []api.Policy{{Grace: x}, {Kind: api.PolSlack, K: 1, Limit: x, Grace: x}, {Kind: 77, K: -1, Limit: api.Ratio{Num: -1}, Grace: x, Classes: make([]api.Class, 30)}} {
				n := Grace(p, est)
				isCapped := n == latest && n*x.Den <= est*x.Num
				isLeast := n <= latest && n*x.Den >= est*x.Num && (n == 0 || (n-1)*x.Den < est*x.Num)
				if n < 0 || !isCapped && !isLeast {
					t.Errorf("Grace(%v, %d) = %d", p, est, n)
				}
			}
		}
		for _, est := range []int{math.MinInt, -longest, -1, 0, longest + 1, latest, never, math.MaxInt} {
			if n := Grace(api.Policy{Kind: api.PolSlack, K: 1, Limit: x, Grace: x}, est); n != 0 {
				t.Errorf("Grace(%v, %d) = %d", x, est, n)
			}
		}
	}
	for _, x := range noRatios() {
		for _, est := range append(ests, 0, -1, longest+1) {
			if n := Grace(api.Policy{Kind: api.PolSlack, K: 1, Limit: api.Ratio{Den: 1}, Grace: x}, est); n != 0 {
				t.Errorf("Grace(%v, %d) = %d", x, est, n)
			}
		}
	}
}

// Pl2: one list of jobs by each kind, by hand.
func TestByHand(t *testing.T) {
	s := stepsOf([2]int{0, 5}, [2]int{9, 8})
	// 1 waits; 2 to 4 may start, 3 and 4 together fill what is free; 5 waits, too.
	jobs := jobsOf([2]int{8, 7}, [2]int{4, 5}, [2]int{3, 5}, [2]int{2, 5}, [2]int{6, 3})
	for n := range jobs {
		jobs[n].Sub = n
	}
	classes := []api.Class{wide("small", 1, 3), wide("big", 4, 8)}
	free := []bool{false, false}
	for _, c := range []struct {
		kind     int
		now      int
		h        api.Held
		starts   []int
		promises []api.Promise
	}{
		{api.PolEasy, 4, api.Held{}, []int{2}, promisesOf([3]int{1, 9, 0})},
		{api.PolEasy, 4, api.Held{Over: []bool{true, true}}, []int{2}, promisesOf([3]int{1, 9, 0})},
		{api.PolEasy, 4, api.Held{Some: true}, []int{2}, nil},
		{api.PolEasy, 4, api.Held{Some: true, Over: free}, []int{2}, nil},
		{api.PolCons, 4, api.Held{}, []int{2}, promisesOf([3]int{1, 9, 0}, [3]int{3, 16, 0}, [3]int{4, 16, 0}, [3]int{5, 21, 0})},
		{api.PolCons, 4, api.Held{Some: true, Over: []bool{true, true}}, []int{2}, promisesOf([3]int{1, 9, 0}, [3]int{3, 16, 0}, [3]int{4, 16, 0}, [3]int{5, 21, 0})},
		{api.PolLos, 4, api.Held{}, []int{3, 4}, promisesOf([3]int{1, 9, 0})},
		{api.PolLos, 4, api.Held{Over: []bool{true, true}}, []int{3, 4}, promisesOf([3]int{1, 9, 0})},
		{api.PolLos, 4, api.Held{Some: true}, []int{3, 4}, nil},
		{api.PolSlack, 4, api.Held{}, []int{2}, promisesOf([3]int{1, 9, 4}, [3]int{3, 16, 3}, [3]int{4, 16, 3}, [3]int{5, 21, 2})},
		{api.PolSlack, 4, api.Held{Some: true, Over: []bool{true, true}}, []int{2}, promisesOf([3]int{1, 9, 4}, [3]int{3, 16, 3}, [3]int{4, 16, 3}, [3]int{5, 21, 2})},
		// At 4 nobody waited long; at 7 all did but 4, three of them just so.
		{api.PolSel, 4, api.Held{}, []int{2}, nil},
		{api.PolSel, 4, api.Held{Some: true, Over: []bool{true, true}}, []int{2}, nil},
		{api.PolSel, 7, api.Held{}, nil, promisesOf([3]int{1, 9, 0}, [3]int{2, 16, 0}, [3]int{3, 16, 0}, [3]int{5, 21, 0})},
		{api.PolSel, 7, api.Held{Some: true, Over: []bool{true, true}}, nil, promisesOf([3]int{1, 9, 0}, [3]int{2, 16, 0}, [3]int{3, 16, 0}, [3]int{5, 21, 0})},
		{api.PolMulti, 4, api.Held{}, []int{3, 4}, promisesOf([3]int{1, 9, 0})},
		{api.PolMulti, 4, api.Held{Some: true}, []int{3, 4}, promisesOf([3]int{1, 9, 0})},
		{api.PolMulti, 4, api.Held{Some: true, Over: free}, []int{3, 4}, promisesOf([3]int{1, 9, 0})},
		{api.PolMulti, 4, api.Held{Some: true, Over: []bool{true}}, []int{3, 4}, promisesOf([3]int{1, 9, 0})},
		{api.PolMulti, 4, api.Held{Some: true, Over: []bool{false, true}}, []int{3, 4}, nil},
		{api.PolMulti, 4, api.Held{Over: []bool{false, true, true}}, []int{3, 4}, nil},
	} {
		p := of(c.kind)
		p.Classes = classes
		plan, left, e := Make(s, c.now, jobs, p, c.h)
		then := stepsThen(s, takenBy(api.Plan{Starts: c.starts, Promises: c.promises}, c.now, jobs))
		if e != api.OK || !samePlan(plan, api.Plan{Starts: c.starts, Promises: c.promises}) || !slices.Equal(left, then) {
			t.Errorf("%s at %d, %v: %v, %v, %d; want %v, %v, %v", Word(c.kind), c.now, c.h, plan, left, e, c.starts, c.promises, then)
		}
		same(t, s, c.now, jobs, p, c.h)
	}
}

// Pl2: K is how many jobs LOS looks at, Limit the threshold, Grace the slack, Classes the queues; by no other kind.
func TestNumbers(t *testing.T) {
	s := stepsOf([2]int{0, 5}, [2]int{9, 8})
	jobs := jobsOf([2]int{8, 7}, [2]int{4, 5}, [2]int{3, 5}, [2]int{2, 5}, [2]int{6, 3})
	for _, kind := range kinds() {
		plain := of(kind)
		first, _, _ := Make(s, 4, jobs, plain, api.Held{})
		for n, turn := range []func(*api.Policy){
			func(p *api.Policy) { p.K = 1 }, func(p *api.Policy) { p.Limit = api.Ratio{Num: 9, Den: 1} }, func(p *api.Policy) { p.Grace = api.Ratio{Num: 9, Den: 1} }, func(p *api.Policy) { p.Classes = []api.Class{wide("a", 1, greatest)} },
		} {
			p := plain
			turn(&p)
			plan, _, e := Make(s, 4, jobs, p, api.Held{})
			turns := kind == []int{api.PolLos, api.PolSel, api.PolSlack, api.PolMulti}[n]
			if e != api.OK || samePlan(plan, first) == turns {
				t.Errorf("%v: %v, %d; by %v: %v", p, plan, e, plain, first)
			}
			same(t, s, 4, jobs, p, api.Held{})
		}
	}
}

// Pl2: an error of the policy, ahead of all others; nothing is told beside it.
func TestWrongPolicy(t *testing.T) {
	s := stepsOf([2]int{2, 1}, [2]int{9, 4})
	twice := slices.Repeat(many(1, 2, 3), 3)
	wrong := func(p api.Policy, want api.Errno) {
		t.Helper()
		for _, jobs := range [][]api.Job{nil, many(2, 1, 1), twice, many(mostJobs+1, 1, 1)} {
			refused(t, s, 2, jobs, p, want)
			refused(t, nil, 2, jobs, p, want)
			refused(t, s, -1, jobs, p, want)
		}
	}
	wrong(api.Policy{}, api.ErrArg)
	for _, kind := range noKinds() {
		wrong(of(kind), api.ErrArg)
	}
	for _, kind := range kinds() {
		for _, k := range noKs() {
			p := of(kind)
			p.K = k
			wrong(p, api.ErrArg)
		}
		for _, x := range noRatios() {
			p, q := of(kind), of(kind)
			p.Limit, q.Grace = x, x
			wrong(p, api.ErrArg)
			wrong(q, api.ErrArg)
		}
		for _, c := range noClasses() {
			p := of(kind)
			p.Classes = c.l
			wrong(p, c.e)
		}
	}
}

// Pl2: 16's Check behind the policy's: steps and times that may not be, and more than 100 jobs, in this order, ahead of Ids that are alike.
func TestWrongPass(t *testing.T) {
	s := stepsOf([2]int{3, 1}, [2]int{latest, 9})
	for _, kind := range kinds() {
		p := of(kind)
		for _, jobs := range [][]api.Job{nil, many(2, 1, 1), many(mostJobs+1, 1, 1), make([]api.Job, 3)} {
			for _, bad := range [][]api.Step{nil, {}, stepsOf([2]int{-1, 4}), stepsOf([2]int{latest + 1, 4}), stepsOf([2]int{0, greatest + 1}), stepsOf([2]int{0, -1}), stepsOf([2]int{0, 4}, [2]int{0, 5}), stepsOf([2]int{0, 4}, [2]int{5, 4}), stepsOf([2]int{0, 4}, [2]int{never + 1, 5})} {
				refused(t, bad, 3, jobs, p, api.ErrArg)
			}
			for _, now := range []int{math.MinInt, -1, 0, 2, latest + 1, never, math.MaxInt} {
				refused(t, s, now, jobs, p, api.ErrArg)
			}
		}
		for _, now := range []int{3, 4, latest - 1, latest} {
			for _, n := range []int{0, 1, mostJobs - 1, mostJobs} {
				same(t, s, now, many(n, 2, 3), p, api.Held{})
			}
			refused(t, s, now, many(mostJobs+1, 2, 3), p, api.ErrFull)
			refused(t, s, now, make([]api.Job, mostJobs+1), p, api.ErrFull)
		}
	}
}

// Pl2: two jobs of one Id: ErrArg by each kind, wherever they stand, also if they may not run; unlike Ids may be any.
func TestSameIds(t *testing.T) {
	s := stepsOf([2]int{0, 3}, [2]int{9, 8})
	pairs := [][2]int{{1, 1}, {4, 9}, {9, 1}, {0, 0}, {-1, longest + 1}}
	for _, kind := range kinds() {
		p := of(kind)
		for _, id := range []int{0, 1, -1, math.MinInt, math.MaxInt} {
			for _, a := range pairs {
				for _, b := range pairs {
					jobs := []api.Job{{Id: 90, Width: 1, Est: 1}, {Id: id, Width: a[0], Est: a[1]}, {Id: 91, Width: 4, Est: 9}, {Id: id, Width: b[0], Est: b[1]}}
					refused(t, s, 3, jobs, p, api.ErrArg)
					refused(t, s, 3, jobs[1:], p, api.ErrArg)
					same(t, s, 3, jobs[:3], p, api.Held{})
					same(t, s, 3, jobs[2:], p, api.Held{})
				}
			}
		}
		jobs := many(mostJobs, 1, 1)
		for n := range mostJobs - 1 {
			jobs[mostJobs-1].Id = jobs[n].Id
			refused(t, s, 3, jobs, p, api.ErrArg)
		}
	}
}

// Pl2: jobs that may not be by Width or Est are passed over by each kind, without an error.
func TestWrongJobs(t *testing.T) {
	var jobs []api.Job
	for _, width := range []int{math.MinInt, -1, 0, greatest + 1, math.MaxInt} {
		jobs = append(jobs, api.Job{Width: width, Est: 1}, api.Job{Width: width, Est: longest})
	}
	for _, est := range []int{math.MinInt, -1, 0, longest + 1, latest, math.MaxInt} {
		jobs = append(jobs, api.Job{Width: 1, Est: est}, api.Job{Width: greatest, Est: est})
	}
	for n := range jobs {
		jobs[n].Id = n + 10
	}
	s := stepsOf([2]int{0, 2}, [2]int{9, greatest})
	good := append(slices.Clone(jobs), jobsOf([2]int{3, 7}, [2]int{1, 1}, [2]int{2, 4})...)
	for _, kind := range kinds() {
		p := of(kind)
		p.Classes = []api.Class{wide("a", 1, greatest)}
		for _, now := range []int{0, 5, 9, latest} {
			plan, left, e := Make(s, now, jobs, p, api.Held{})
			if e != api.OK || !samePlan(plan, api.Plan{}) || !slices.Equal(left, s) {
				t.Errorf("%s at %d: %v, %v, %d", Word(kind), now, plan, left, e)
			}
			same(t, s, now, good, p, api.Held{})
		}
	}
	plan, _, e := Make(s, 0, good, of(api.PolSlack), api.Held{})
	if e != api.OK || !samePlan(plan, api.Plan{Starts: []int{2}, Promises: promisesOf([3]int{1, 9, 4}, [3]int{3, 1, 2})}) {
		t.Errorf("slack-based among wrong ones: %v, %d", plan, e)
	}
}

// Pl2: slacks of the longest jobs, and promises at the last time.
func TestLastTimes(t *testing.T) {
	s := stepsOf([2]int{0, 1}, [2]int{latest, 4})
	jobs := jobsOf([2]int{4, longest}, [2]int{2, 1}, [2]int{1, longest}, [2]int{3, 2})
	p := of(api.PolSlack)
	for _, c := range []struct{ num, den, slack int }{{mostRatio, 1, latest}, {1 << 10, 1, latest}, {1, mostRatio, mostRatio}, {0, 3, 0}} {
		p.Grace = api.Ratio{Num: c.num, Den: c.den}
		plan, _, e := Make(s, latest-1, jobs, p, api.Held{})
		if e != api.OK || !samePlan(plan, api.Plan{Promises: promisesOf([3]int{1, latest, c.slack})}) {
			t.Errorf("%v: %v, %d", p.Grace, plan, e)
		}
		same(t, s, latest-1, jobs, p, api.Held{})
	}
	for _, kind := range kinds() {
		for _, now := range []int{0, latest - longest, latest - 1, latest} {
			same(t, s, now, jobs, of(kind), api.Held{})
			same(t, s, now, jobs, of(kind), api.Held{Some: true})
		}
	}
}

// Pl2: all kinds, by longer lists, against the passes that they name.
func TestMixedByDefinition(t *testing.T) {
	some := make([]int, api.PolMulti+1)
	for seed := range 500 {
		s, now, jobs := mixedCase(seed, 40)
		for _, kind := range kinds() {
			p, h := mixedPolicy(mixed(seed+9000), kind)
			same(t, s, now, jobs, p, h)
			if plan, _, _ := Make(s, now, jobs, p, h); len(plan.Starts) > 0 && len(plan.Promises) > 0 {
				some[kind]++
			}
		}
	}
	if slices.Min(some[1:]) < 100 {
		t.Errorf("passes with starts and promises: %v", some)
	}
}

// Pl3, P2, P3: all that is started and promised has room together, whichever policy it is: the steps then tell it; no job twice, no slack but by PolSlack, and just the grace by that.
func TestRoomTogether(t *testing.T) {
	for seed := range 400 {
		s, now, jobs := mixedCase(seed, 40)
		for _, kind := range kinds() {
			p, h := mixedPolicy(mixed(seed+7000), kind)
			plan, left, e := Make(s, now, jobs, p, h)
			ids := idsOf(plan)
			slices.Sort(ids)
			then := stepsThen(s, takenBy(plan, now, jobs))
			if e != api.OK || len(slices.Compact(ids)) != len(plan.Starts)+len(plan.Promises) || !slices.Equal(left, then) {
				t.Fatalf("Make(%v, %d, %v, %v, %v) = %v, %v, %d; then: %v", s, now, jobs, p, h, plan, left, e, then)
			}
			for _, a := range then {
				if a.Free < 0 {
					t.Fatalf("Make(%v, %d, %v, %v, %v) = %v: no room at %d", s, now, jobs, p, h, plan, a.At)
				}
			}
			for _, given := range plan.Promises {
				slack := 0
				if kind == api.PolSlack {
					slack = Grace(p, jobOf(jobs, given.Id).Est)
				}
				if given.Slack != slack || given.At <= now || given.At > latest {
					t.Fatalf("Make(%v, %d, %v, %v, %v) = %v", s, now, jobs, p, h, plan)
				}
			}
		}
	}
}

// Example 1, P4: conservative, slack-based: each job is started, or promised, or has no shadow.
func TestEachIsPromised(t *testing.T) {
	none := 0
	for seed := range 200 {
		s, now, jobs := mixedCase(seed, 30)
		for _, kind := range []int{api.PolCons, api.PolSlack} {
			p, h := mixedPolicy(mixed(seed), kind)
			plan, _, _ := Make(s, now, jobs, p, h)
			ids := idsOf(plan)
			for n, j := range jobs {
				if slices.Contains(ids, j.Id) {
					continue
				}
				none++
				_, ahead, _ := Make(s, now, jobs[:n], p, h)
				if at, _, ok := shadow.Of(ahead, now, j); ok {
					t.Fatalf("Make(%v, %d, %v, %v, %v) = %v; %v has a shadow at %d", s, now, jobs, p, h, plan, j, at)
				}
			}
		}
	}
	if none < 100 {
		t.Errorf("%d without a shadow", none)
	}
}

// P4: EASY, LOS: one job is promised, if one waits that has a shadow, and none has a promise already.
func TestOneIsPromised(t *testing.T) {
	one := 0
	for seed := range 300 {
		s, now, jobs := mixedCase(seed, 30)
		for _, kind := range []int{api.PolEasy, api.PolLos} {
			p, _ := mixedPolicy(mixed(seed), kind)
			held, _, _ := Make(s, now, jobs, p, api.Held{Some: true})
			if len(held.Promises) != 0 {
				t.Fatalf("Make(%v, %d, %v, %v) = %v, some job being promised", s, now, jobs, p, held)
			}
			plan, _, _ := Make(s, now, jobs, p, api.Held{})
			want := 0
			for _, j := range jobs {
				if _, _, ok := shadow.Of(s, now, j); ok && !slices.Contains(plan.Starts, j.Id) {
					want = 1
				}
			}
			one += want
			// Ahead of the last times what starts takes nobody's shadow for good.
			if len(plan.Promises) != want && now < latest-1000 {
				t.Fatalf("Make(%v, %d, %v, %v) = %v; %d promised", s, now, jobs, p, plan, want)
			}
		}
	}
	if one < 300 {
		t.Errorf("%d promised", one)
	}
}

// P4: without grace slack-based is conservative; with one class that has all, multiple-queue is EASY; selective with nobody over the threshold is EASY without a head, with all over it conservative.
func TestKindsAreAlike(t *testing.T) {
	alike := func(s []api.Step, now int, jobs []api.Job, p, q api.Policy, h, g api.Held) {
		t.Helper()
		plan, left, e := Make(s, now, jobs, p, h)
		other, then, f := Make(s, now, jobs, q, g)
		if e != api.OK || f != api.OK || !samePlan(plan, other) || !slices.Equal(left, then) {
			t.Fatalf("Make(%v, %d, %v, %v, %v) = %v, %v, %d; by %v, %v: %v, %v, %d", s, now, jobs, p, h, plan, left, e, q, g, other, then, f)
		}
	}
	for seed := range 300 {
		s, now, jobs := mixedCase(seed, 40)
		next := mixed(seed + 300)
		slacked, h := mixedPolicy(next, api.PolSlack)
		slacked.Grace.Num = 0
		alike(s, now, jobs, slacked, of(api.PolCons), h, api.Held{})
		queued := of(api.PolMulti)
		queued.Classes = []api.Class{wide("all", 1, greatest)}
		alike(s, now, jobs, queued, of(api.PolEasy), api.Held{}, api.Held{})
		alike(s, now, jobs, queued, of(api.PolEasy), api.Held{Some: true, Over: []bool{true}}, api.Held{Some: true})
		waited := of(api.PolSel)
		waited.Limit = api.Ratio{Num: mostRatio, Den: 1}
		alike(s, now, jobs, waited, of(api.PolEasy), api.Held{}, api.Held{Some: true})
		waited.Limit = api.Ratio{Num: 1, Den: 1}
		alike(s, now, jobs, waited, of(api.PolCons), api.Held{Some: true}, api.Held{})
	}
}

// P2: where what is free never falls, LOS, looking at all jobs, starts no fewer processors than EASY.
func TestNoFewerThanEasy(t *testing.T) {
	more := 0
	for seed := range 400 {
		_, _, jobs := mixedCase(seed, mostK)
		next := mixed(seed)
		free := 2 + next(6)
		s := stepsOf([2]int{0, free}, [2]int{1 + next(9), free + 1 + next(4)}, [2]int{20, 20})
		looking := of(api.PolLos)
		looking.K = mostK
		for _, h := range []api.Held{{}, {Some: true}} {
			plan, _, _ := Make(s, 0, jobs, looking, h)
			other, _, _ := Make(s, 0, jobs, of(api.PolEasy), h)
			a, b := widths(jobs, plan.Starts), widths(jobs, other.Starts)
			if a < b {
				t.Fatalf("Make(%v, 0, %v) by LOS: %v, %d wide; by EASY: %v, %d", s, jobs, plan, a, other, b)
			}
			if a > b {
				more++
			}
		}
	}
	if more < 50 {
		t.Errorf("%d times more than EASY", more)
	}
}

// R3: nothing is written to what is handed in, and answers are new memory, also where nothing is laid.
func TestNewMemory(t *testing.T) {
	s := stepsOf([2]int{4, 3}, [2]int{9, 8}, [2]int{12, 1})
	jobs := jobsOf([2]int{1, 20}, [2]int{2, 5}, [2]int{3, 3}, [2]int{4, 2}, [2]int{9, 9})
	classes, over := rows(4), []bool{false, false, true}
	wasS, wasJobs, wasClasses, wasOver := slices.Clone(s), slices.Clone(jobs), slices.Clone(classes), slices.Clone(over)
	unturned := func() bool {
		return slices.Equal(s, wasS) && slices.Equal(jobs, wasJobs) && slices.Equal(classes, wasClasses) && slices.Equal(over, wasOver)
	}
	for _, kind := range kinds() {
		p, h := of(kind), api.Held{Over: over[:2]}
		p.Classes = classes[:3]
		// By this threshold all are over it, so that the selective pass promises, too.
		p.Limit.Num = 1
		for _, l := range [][]api.Job{jobs[:4], jobs[4:], nil} {
			want, then, e := Make(s[:2], 5, l, p, h)
			plan, left, _ := Make(s[:2], 5, l, p, h)
			if e != api.OK || len(left) == 0 || len(l) == 4 && (len(plan.Starts) != 2 || len(plan.Promises) == 0) {
				t.Fatalf("%s: %v, %v, %d", Word(kind), plan, left, e)
			}
			for n := range plan.Starts {
				plan.Starts[n] = 50
			}
			for n := range plan.Promises {
				plan.Promises[n] = api.Promise{Id: 50, At: 50, Slack: 50}
			}
			for n := range left {
				left[n] = api.Step{At: 50, Free: 50}
			}
			_ = append(left, api.Step{At: 51})
			again, still, _ := Make(s[:2], 5, l, p, h)
			if !samePlan(again, want) || !slices.Equal(still, then) || !unturned() {
				t.Errorf("%s: turned: %v, %v; was %v, %v; %v, %v, %v, %v", Word(kind), again, still, want, then, s, jobs, classes, over)
			}
		}
	}
}

// Pl1, Pl2 of any policies, steps, times and jobs: go test -run xxx -fuzz=FuzzPlans ./plan.
func FuzzPlans(f *testing.F) {
	f.Add([]byte{3, 9, 8}, []byte{2, 19, 1, 4, 5, 6}, 0, 5, 3, 20, api.PolSlack, 5, 1, 2, 1, 2, byte(3), byte(1))
	f.Add([]byte{255, 1, 254, 2, 255}, []byte{255, 255, 0, 0, 128, 3}, latest-3, latest, greatest, longest, api.PolMulti, mostK, mostRatio, 1, 0, mostRatio, byte(20), byte(6))
	f.Add([]byte{4}, []byte{1, 1, 1}, 0, -5, math.MinInt, math.MaxInt, 7, 0, -1, 0, math.MaxInt, math.MinInt, byte(21), byte(0))
	f.Fuzz(func(t *testing.T, turns, some []byte, first, now, width, est, kind, k, num, den, more, per int, classes, held byte) {
		// What is free, and behind it how long it stays so, in turn.
		var s []api.Step
		from := first
		for n, b := range turns {
			if n%2 == 1 {
				from += 1 + int(b)
			} else if len(s) == 0 || s[len(s)-1].Free != int(b) {
				s = append(s, api.Step{At: from, Free: int(b)})
			}
		}
		jobs := []api.Job{{Id: 1, Width: width, Est: est}}
		for n := 1; n < len(some); n += 2 {
			jobs = append(jobs, api.Job{Id: 1 + n, Width: int(some[n-1]), Est: int(int8(some[n])), Sub: n})
		}
		p := api.Policy{Kind: kind, K: k, Limit: api.Ratio{Num: num, Den: den}, Grace: api.Ratio{Num: more, Den: per}, Classes: rows(int(classes % 26))}
		h := api.Held{Some: held%2 == 1}
		for n := range 7 {
			h.Over = append(h.Over, held>>(n+1)%2 == 1)
		}
		if e := Check(p); !mayBeMeant(p) {
			refused(t, s, now, jobs, p, api.ErrArg)
		} else if len(p.Classes) > mostClasses {
			refused(t, s, now, jobs, p, api.ErrFull)
		} else if e != api.OK {
			t.Errorf("Check(%v) = %d", p, e)
		} else if len(s) == 0 || first < 0 || first > latest || now < first || now > latest {
			refused(t, s, now, jobs, p, api.ErrArg)
		} else if len(jobs) > mostJobs {
			refused(t, s, now, jobs, p, api.ErrFull)
		} else if len(s) < 100 {
			same(t, s, now, jobs, p, h)
			jobs[0].Id = jobs[len(jobs)-1].Id
			if len(jobs) > 1 {
				refused(t, s, now, jobs, p, api.ErrArg)
			}
		}
	})
}
