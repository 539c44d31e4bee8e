package window

import (
	"math"
	"math/big"
	"slices"
	"testing"

	"stint/api"
)

const (
	mostK    = 32
	greatest = 256
	latest   = api.MaxTime
	longest  = api.MaxEst
	never    = api.Never
)

// noKs, noLongs, noWidths, noEsts and noNows are numbers that are none, by whatever steps.
func noKs() []int {
	return []int{math.MinInt, -32, -1, 0, mostK + 1, mostK + 2, 64, 100, greatest, 1 << 32, 1<<32 + 1, math.MaxInt}
}

func noLongs() []int {
	return []int{math.MinInt, -greatest, -1, greatest + 1, greatest + 2, 1 << 32, math.MaxInt}
}

func noWidths() []int {
	return []int{math.MinInt, -greatest, -1, 0, greatest + 1, 1 << 32, math.MaxInt}
}

func noEsts() []int {
	return []int{math.MinInt, -longest, -1, 0, longest + 1, latest, never, math.MaxInt}
}

func noNows() []int {
	return []int{math.MinInt, -latest, -1, latest + 1, never - 1, never, never + 1, math.MaxInt}
}

// noSteps are steps that may not be.
func noSteps() [][]api.Step {
	return [][]api.Step{
		nil, {}, {{At: -1, Free: 4}}, {{At: latest + 1, Free: 4}}, {{At: 0, Free: -1}}, {{At: 0, Free: greatest + 1}},
		{{At: 0, Free: 4}, {At: 0, Free: 5}}, {{At: 0, Free: 4}, {At: 5, Free: 4}}, {{At: 3, Free: 4}, {At: 2, Free: 5}},
		{{At: 0, Free: 4}, {At: 5, Free: 6}, {At: never + 1, Free: 4}}, {{At: 0, Free: 4}, {At: 5, Free: 6}, {At: 9, Free: -1}}, {{At: 0, Free: 4}, {At: 5, Free: 6}, {At: 9, Free: greatest + 1}},
	}
}

// flat is so many free from 0 on, for good.
func flat(free int) []api.Step {
	return []api.Step{{At: 0, Free: free}}
}

// jobsOf are jobs of widths and lengths, by pairs; their Ids are 1 and on.
func jobsOf(pairs ...[2]int) []api.Job {
	var l []api.Job
	for n, p := range pairs {
		l = append(l, api.Job{Id: n + 1, Width: p[0], Est: p[1]})
	}
	return l
}

// alike is so many jobs of one width and length.
func alike(many, width, est int) []api.Job {
	return jobsOf(slices.Repeat([][2]int{{width, est}}, many)...)
}

// idsOf are jobs' Ids.
func idsOf(jobs []api.Job) []int {
	var l []int
	for _, j := range jobs {
		l = append(l, j.Id)
	}
	return l
}

// upto is the numbers from 1 on, that one the last.
func upto(many int) []int {
	return idsOf(alike(many, 1, 1))
}

// marks are the times of a span at which it begins, or something turns.
func marks(s []api.Step, from, to int) []int {
	l := []int{from}
	for _, a := range s {
		if from < a.At && a.At < to {
			l = append(l, a.At)
		}
	}
	return l
}

// freeAt is by definition how many are free at a time, and whether it has a step.
func freeAt(s []api.Step, t int) (int, bool) {
	free, ok := 0, false
	for _, a := range s {
		if a.At <= t {
			free, ok = a.Free, true
		}
	}
	return free, ok
}

// hasRoom is by definition whether a job has room from now on, by steps that may be.
func hasRoom(s []api.Step, now int, j api.Job) bool {
	if now > latest || j.Width < 1 || j.Width > greatest || j.Est < 1 || j.Est > longest {
		return false
	}
	return !slices.ContainsFunc(marks(s, now, now+j.Est), func(t int) bool {
		free, ok := freeAt(s, t)
		return !ok || free < j.Width
	})
}

// meantWindow is the window's jobs by definition, by steps and a k that may be.
func meantWindow(s []api.Step, now int, jobs []api.Job, k int) []api.Job {
	var l []api.Job
	for _, j := range jobs {
		if hasRoom(s, now, j) && len(l) < k {
			l = append(l, j)
		}
	}
	return l
}

// meantItems are items by definition, in numbers that do not run over.
func meantItems(jobs []api.Job, now, reserved int) []api.Item {
	var l []api.Item
	for _, j := range jobs {
		over := big.NewInt(int64(now))
		if j.Est > 0 {
			over.Add(over, big.NewInt(int64(j.Est)))
		}
		if greatestInt := big.NewInt(math.MaxInt); over.Cmp(greatestInt) > 0 {
			over = greatestInt
		}
		l = append(l, api.Item{Width: j.Width, Long: over.Cmp(big.NewInt(int64(reserved))) > 0})
	}
	return l
}

// meantChoice is the choice by definition, of a look that may be: all rows of places of the window are looked at, those that have an earlier place first, and of those that are as full the earliest one stays.
func meantChoice(s []api.Step, now int, jobs []api.Job, x api.Look) []int {
	looked := meantWindow(s, now, jobs, x.K)
	items := meantItems(looked, now, x.Reserved)
	room, _ := freeAt(s, now)
	var best []int
	most := 0
	for bits := 1<<len(looked) - 1; bits > 0; bits-- {
		var ids []int
		all, long := 0, 0
		for n, item := range items {
			if bits&(1<<(len(items)-1-n)) == 0 {
				continue
			}
			ids = append(ids, looked[n].Id)
			all += item.Width
			if item.Long {
				long += item.Width
			}
		}
		if all <= room && long <= x.Long && all > most {
			best, most = ids, all
		}
	}
	return best
}

// same tells what is wrong with Of, Items and Choose, by steps, a time and a look that may be.
func same(t *testing.T, s []api.Step, now int, jobs []api.Job, x api.Look) {
	t.Helper()
	want := meantWindow(s, now, jobs, x.K)
	if got := Of(s, now, jobs, x.K); !slices.Equal(got, want) {
		t.Fatalf("Of(%v, %d, %v, %d) = %v; meant: %v", s, now, jobs, x.K, got, want)
	}
	if items := Items(want, now, x.Reserved); !slices.Equal(items, meantItems(want, now, x.Reserved)) {
		t.Fatalf("Items(%v, %d, %d) = %v", want, now, x.Reserved, items)
	}
	ids := meantChoice(s, now, jobs, x)
	if got, e := Choose(s, now, jobs, x); e != api.OK || !slices.Equal(got, ids) {
		t.Fatalf("Choose(%v, %d, %v, %v) = %v, %d; meant: %v", s, now, jobs, x, got, e, ids)
	}
}

// wrong asks for ErrArg, and nothing beside it.
func wrong(t *testing.T, s []api.Step, now int, jobs []api.Job, x api.Look) {
	t.Helper()
	if ids, e := Choose(s, now, jobs, x); len(ids) != 0 || e != api.ErrArg {
		t.Errorf("Choose(%v, %d, %v, %v) = %v, %d", s, now, jobs, x, ids, e)
	}
}

// mixed is numbers that follow a rule, each below what is asked.
func mixed(seed int) func(below int) int {
	x := uint64(seed)*2654435761 + 12345
	return func(below int) int {
		x ^= x << 13
		x ^= x >> 7
		x ^= x << 17
		return int(x >> 1 % uint64(below))
	}
}

// mixedSteps are some steps from a time on, of so many free at most.
func mixedSteps(next func(below int) int, first, many, widest int) []api.Step {
	var s []api.Step
	at := first
	for range many {
		if free := next(widest + 1); len(s) == 0 || s[len(s)-1].Free != free {
			s = append(s, api.Step{At: at, Free: free})
		}
		at += 1 + next(6)
	}
	return s
}

// mixedJobs are some jobs, of which some Ids, Users and Prios are alike.
func mixedJobs(next func(below int) int, many, widest, longest int) []api.Job {
	var l []api.Job
	for range many {
		l = append(l, api.Job{Id: 1 + next(many*2), User: "ann", Width: 1 + next(widest), Est: 1 + next(longest), Prio: next(9), Sub: next(50), State: api.JobQueued})
	}
	return l
}

// Wi1, Wi2: the document's example: no jobs, nothing.
func TestNoJobs(t *testing.T) {
	for _, jobs := range [][]api.Job{nil, {}} {
		if l := Of(flat(5), 0, jobs, 5); len(l) != 0 {
			t.Errorf("Of: %v", l)
		}
		if l := Items(jobs, 0, 9); len(l) != 0 {
			t.Errorf("Items: %v", l)
		}
		if l, e := Choose(flat(5), 0, jobs, api.Look{K: 5, Reserved: 9, Long: 5}); len(l) != 0 || e != api.OK {
			t.Errorf("Choose: %v, %d", l, e)
		}
	}
}

// Wi1: a few by hand: those that have room, each for itself, as they stand, k at most.
func TestOf(t *testing.T) {
	falls := []api.Step{{At: 2, Free: 5}, {At: 6, Free: 3}, {At: 9, Free: 0}}
	some := jobsOf([2]int{5, 5}, [2]int{5, 4}, [2]int{3, 7}, [2]int{3, 8}, [2]int{1, 1}, [2]int{6, 1}, [2]int{5, 1})
	ends := []api.Step{{At: latest - 2, Free: 0}, {At: latest, Free: 4}}
	for _, c := range []struct {
		s      []api.Step
		now, k int
		jobs   []api.Job
		want   []int
	}{
		{falls, 2, mostK, some, []int{2, 3, 5, 7}}, {falls, 2, 4, some, []int{2, 3, 5, 7}}, {falls, 2, 3, some, []int{2, 3, 5}}, {falls, 2, 2, some, []int{2, 3}}, {falls, 2, 1, some, []int{2}},
		{falls, 3, mostK, some, []int{5, 7}}, {falls, 5, mostK, some, []int{5, 7}}, {falls, 6, mostK, some, []int{5}}, {falls, 8, 1, some, []int{5}}, {falls, 9, mostK, some, nil},
		{falls, 1, mostK, some, nil}, {falls, 0, mostK, some, nil}, {falls, -1, mostK, some, nil}, {falls, math.MinInt, mostK, some, nil}, {falls, latest, mostK, some, nil},
		{flat(5), latest, 9, some, []int{1, 2, 3, 4, 5, 7}}, {flat(5), latest + 1, 9, some, nil}, {flat(5), never, 9, some, nil}, {flat(5), math.MaxInt, 9, some, nil}, {flat(0), 0, 9, some, nil},
		{ends, latest, 9, some, []int{3, 4, 5}}, {ends, latest - 1, 9, some, nil}, {flat(greatest), 0, 9, jobsOf([2]int{greatest, longest}), []int{1}}, {flat(greatest - 1), 0, 9, jobsOf([2]int{greatest, longest}), nil},
		{[]api.Step{{At: 0, Free: 4}, {At: longest, Free: 0}}, 0, 9, jobsOf([2]int{4, longest}), []int{1}}, {[]api.Step{{At: 0, Free: 4}, {At: longest, Free: 0}}, 1, 9, jobsOf([2]int{4, longest}), nil},
	} {
		if l := idsOf(Of(c.s, c.now, c.jobs, c.k)); !slices.Equal(l, c.want) {
			t.Errorf("Of(%v, %d, %v, %d): %v; want %v", c.s, c.now, c.jobs, c.k, l, c.want)
		}
	}
}

// Wi1: jobs come back whole and as they stand, whatever they are beside Width and Est, also where an Id is there twice; nothing is put in order.
func TestOfAsTheyStand(t *testing.T) {
	jobs := []api.Job{
		{Id: 7, User: "bob", Width: 2, Est: 3, Prio: 1, Sub: 9, State: api.JobQueued}, {Id: 7, User: "ann", Width: 2, Est: 3, Prio: 9, Sub: 1},
		{Id: -1, Width: 1, Est: 1, Prio: -5, Sub: -9, State: 77, Start: 4, End: 2}, {Id: 7, User: "bob", Width: 2, Est: 3, Prio: 1, Sub: 9, State: api.JobQueued}, {Width: 4, Est: longest, State: api.JobDone},
	}
	for k := 1; k <= mostK; k++ {
		if l := Of(flat(4), 0, jobs, k); !slices.Equal(l, jobs[:min(k, len(jobs))]) {
			t.Errorf("Of with %d: %v", k, l)
		}
	}
	ids, e := Choose(flat(7), 0, jobs, api.Look{K: 4, Reserved: never, Long: 0})
	if e != api.OK || !slices.Equal(ids, []int{7, 7, -1, 7}) {
		t.Errorf("Choose: %v, %d", ids, e)
	}
}

// Wi1: a k that may not be, and steps that may not be, have no window; a job that may not be has no room, and the next ones move up.
func TestOfNothing(t *testing.T) {
	jobs := alike(40, 1, 1)
	for _, k := range noKs() {
		if l := Of(flat(5), 0, jobs, k); len(l) != 0 {
			t.Errorf("Of with %d: %v", k, l)
		}
	}
	for _, s := range noSteps() {
		for _, now := range append(noNows(), 0, 1, 2, 3, 5, 9, latest) {
			if l := Of(s, now, jobs, 5); len(l) != 0 {
				t.Errorf("Of by %v at %d: %v", s, now, l)
			}
		}
	}
	for n, width := range noWidths() {
		if l := idsOf(Of(flat(greatest), 0, jobsOf([2]int{width, 1}, [2]int{1, 1}), 1)); !slices.Equal(l, []int{2}) {
			t.Errorf("Of a width %d: %v, %d", width, l, n)
		}
	}
	for _, est := range noEsts() {
		if l := idsOf(Of(flat(greatest), 0, jobsOf([2]int{1, est}, [2]int{1, 1}), 1)); !slices.Equal(l, []int{2}) {
			t.Errorf("Of a length %d: %v", est, l)
		}
	}
}

// Wi1: it is long, if it ends behind the reserved time, and not at it; an Est below 0 counts as 0, and what would run over stays.
func TestItems(t *testing.T) {
	for _, c := range []struct {
		width, est, now, reserved int
		long                      bool
	}{
		{3, 5, 4, 9, false}, {3, 5, 4, 8, true}, {3, 6, 4, 9, true}, {3, 5, 5, 9, true}, {3, 4, 4, 9, false}, {3, 5, 0, 0, true}, {3, 5, 9, 0, true}, {3, 1, -1, 0, false}, {3, 2, -1, 0, true},
		{3, 0, 4, 4, false}, {3, 0, 4, 3, true}, {3, -1, 4, 4, false}, {3, -1, 4, 3, true}, {3, -9, 4, 3, true}, {3, math.MinInt, 4, 3, true}, {3, math.MinInt, 4, 4, false}, {3, math.MinInt, math.MinInt, math.MinInt, false}, {3, -1, math.MinInt + 1, math.MinInt, true},
		{3, 1, math.MaxInt, math.MaxInt, false}, {3, 1, math.MaxInt, math.MaxInt - 1, true}, {3, math.MaxInt, math.MaxInt, math.MaxInt, false}, {3, math.MaxInt, math.MaxInt, math.MaxInt - 1, true}, {3, math.MaxInt, 1, never, true}, {3, math.MaxInt, math.MinInt, -1, false}, {3, math.MaxInt, math.MinInt, -2, true},
		{3, longest, latest, never, false}, {3, longest, latest, latest + longest, false}, {3, longest, latest, latest + longest - 1, true}, {3, 5, 4, math.MaxInt, false}, {3, 5, 4, math.MinInt, true},
		{0, 5, 4, 8, true}, {-1, 5, 4, 8, true}, {greatest + 1, 5, 4, 9, false}, {math.MinInt, 5, 4, 9, false}, {math.MaxInt, 5, 4, 8, true},
	} {
		l := Items(jobsOf([2]int{c.width, c.est}), c.now, c.reserved)
		if len(l) != 1 || l[0] != (api.Item{Width: c.width, Long: c.long}) {
			t.Errorf("Items(%d wide, %d long; %d, %d) = %v", c.width, c.est, c.now, c.reserved, l)
		}
	}
	three := Items(jobsOf([2]int{4, 9}, [2]int{2, 3}, [2]int{4, 9}), 1, 4)
	if !slices.Equal(three, []api.Item{{Width: 4, Long: true}, {Width: 2}, {Width: 4, Long: true}}) {
		t.Errorf("Items of three: %v", three)
	}
	if many := Items(alike(100, 5, 7), 2, 8); !slices.Equal(many, slices.Repeat([]api.Item{{Width: 5, Long: true}}, 100)) {
		t.Errorf("Items of a hundred: %v", many)
	}
}

// Wi1: items of any numbers at edges, by definition.
func TestItemsByDefinition(t *testing.T) {
	edges := []int{math.MinInt, math.MinInt + 1, -never, -1, 0, 1, 2, longest, latest - 1, latest, never - 1, never, math.MaxInt/2 + 1, math.MaxInt - 1, math.MaxInt}
	var jobs []api.Job
	for n, est := range edges {
		jobs = append(jobs, api.Job{Id: n, Width: n - 3, Est: est})
	}
	for _, now := range edges {
		for _, reserved := range edges {
			if l := Items(jobs, now, reserved); !slices.Equal(l, meantItems(jobs, now, reserved)) {
				t.Errorf("Items(%v, %d, %d) = %v", jobs, now, reserved, l)
			}
		}
	}
}

// Wi2: a few by hand: the room is what is free now, also where more are free behind it; the window counts those that have room, chosen or not.
func TestChoose(t *testing.T) {
	rises := []api.Step{{At: 0, Free: 3}, {At: 9, Free: 8}}
	falls := []api.Step{{At: 0, Free: 8}, {At: 9, Free: 3}}
	two := jobsOf([2]int{3, 20}, [2]int{2, 5})
	four := jobsOf([2]int{2, 12}, [2]int{4, 1}, [2]int{3, 9}, [2]int{1, 30})
	for _, c := range []struct {
		s    []api.Step
		now  int
		jobs []api.Job
		x    api.Look
		want []int
	}{
		{rises, 0, two, api.Look{K: 5, Reserved: 9, Long: 2}, []int{2}}, {rises, 0, two, api.Look{K: 5, Reserved: 9, Long: 3}, []int{1}}, {rises, 0, two, api.Look{K: 1, Reserved: 9, Long: 2}, nil}, {rises, 0, two, api.Look{K: 2, Reserved: 20}, []int{1}}, {rises, 0, two, api.Look{K: 2, Reserved: 19}, []int{2}}, {rises, 9, two, api.Look{K: 2, Reserved: never}, []int{1, 2}},
		{rises, 0, four, api.Look{K: 4, Reserved: 9, Long: 2}, []int{3}}, {rises, 0, four, api.Look{K: 4, Reserved: 9, Long: 3}, []int{1, 4}}, {rises, 0, four, api.Look{K: 4, Reserved: 9, Long: 0}, []int{3}}, {rises, 0, four, api.Look{K: 2, Reserved: 9, Long: 0}, []int{3}}, {rises, 0, four, api.Look{K: 1, Reserved: 9, Long: 0}, nil}, {rises, 0, four, api.Look{K: 2, Reserved: never, Long: greatest}, []int{3}}, {rises, 0, four, api.Look{K: 3, Reserved: never, Long: greatest}, []int{1, 4}},
		{falls, 0, four, api.Look{K: 4, Reserved: never, Long: greatest}, []int{2, 3, 4}}, {falls, 8, four, api.Look{K: 4, Reserved: 9, Long: 3}, []int{1, 2, 4}}, {falls, 8, four, api.Look{K: 4, Reserved: 9, Long: 0}, []int{2}}, {falls, 9, four, api.Look{K: 4, Reserved: never, Long: 0}, []int{1, 4}},
		{flat(0), 0, four, api.Look{K: 4, Reserved: never, Long: greatest}, nil}, {flat(4), latest, four, api.Look{K: 4, Reserved: latest, Long: 4}, []int{2}}, {flat(4), latest, four, api.Look{K: 4, Reserved: math.MaxInt}, []int{2}}, {flat(6), latest, four, api.Look{K: 4, Reserved: math.MinInt, Long: 5}, []int{1, 3}}, {flat(10), 0, four, api.Look{K: mostK, Reserved: 0, Long: greatest}, []int{1, 2, 3, 4}}, {flat(10), 0, four, api.Look{K: mostK, Reserved: 0, Long: 9}, []int{1, 2, 3}},
	} {
		if l, e := Choose(c.s, c.now, c.jobs, c.x); e != api.OK || !slices.Equal(l, c.want) {
			t.Errorf("Choose(%v, %d, %v, %v) = %v, %d; want %v", c.s, c.now, c.jobs, c.x, l, e, c.want)
		}
	}
}

// Wi2: each thing that may not be, beside others that may be, and that may not; the least and the greatest ones may be.
func TestWrong(t *testing.T) {
	jobs := jobsOf([2]int{3, 20}, [2]int{2, 5}, [2]int{0, 0})
	good := []api.Look{{K: 1}, {K: mostK, Reserved: never, Long: greatest}, {K: 5, Reserved: math.MinInt, Long: 3}, {K: 5, Reserved: math.MaxInt}}
	bad := []api.Look{{}}
	for _, k := range noKs() {
		bad = append(bad, api.Look{K: k, Reserved: 9, Long: 2}, api.Look{K: k, Long: -1})
	}
	for _, long := range noLongs() {
		bad = append(bad, api.Look{K: 1, Reserved: 9, Long: long}, api.Look{K: mostK, Long: long})
	}
	begins := []api.Step{{At: 3, Free: 4}, {At: 5, Free: 6}}
	for _, l := range [][]api.Job{nil, jobs, alike(40, 1, 1)} {
		for _, s := range [][]api.Step{begins, {{At: latest, Free: greatest}}, {{At: 0, Free: 0}}} {
			for _, x := range bad {
				for _, now := range append(noNows(), 0, 2, 3, 5, latest) {
					wrong(t, s, now, l, x)
				}
			}
			for _, x := range good {
				for _, now := range append(noNows(), s[0].At-1) {
					wrong(t, s, now, l, x)
				}
				for _, now := range []int{s[0].At, latest} {
					if _, e := Choose(s, now, l, x); e != api.OK {
						t.Errorf("Choose(%v, %d, %v, %v): %d", s, now, l, x, e)
					}
				}
			}
		}
		for _, s := range noSteps() {
			for _, x := range append(bad, good...) {
				for _, now := range append(noNows(), 0, 1, 3, 5, latest) {
					wrong(t, s, now, l, x)
				}
			}
		}
	}
}

// Wi2: jobs that may not be are in no window, and so in no choice: they are no error.
func TestChooseOfWrongJobs(t *testing.T) {
	var jobs []api.Job
	for _, width := range noWidths() {
		jobs = append(jobs, api.Job{Id: 1, Width: width, Est: 1})
	}
	for _, est := range noEsts() {
		jobs = append(jobs, api.Job{Id: 2, Width: 1, Est: est})
	}
	for _, now := range []int{0, 1, latest} {
		ids, e := Choose(flat(greatest), now, append(slices.Clone(jobs), api.Job{Id: 3, Width: greatest, Est: longest}), api.Look{K: 1, Reserved: never})
		if e != api.OK || !slices.Equal(ids, []int{3}) {
			t.Errorf("Choose at %d: %v, %d", now, ids, e)
		}
		if ids, e = Choose(flat(greatest), now, jobs, api.Look{K: mostK, Long: greatest}); e != api.OK || len(ids) != 0 {
			t.Errorf("Choose at %d of none that may be: %v, %d", now, ids, e)
		}
	}
}

// Wi1, Wi2: of more jobs than may be looked at the first 32 that have room are looked at, and no other one.
func TestAsManyAsMayBe(t *testing.T) {
	for _, many := range []int{mostK - 1, mostK, mostK + 1, 100, 1000} {
		jobs := append(alike(many, 8, 5), api.Job{Id: 5000, Width: 250, Est: 5})
		for _, k := range []int{1, 2, mostK - 1, mostK} {
			n := min(k, many)
			if l := Of(flat(greatest), 0, jobs, n); !slices.Equal(l, jobs[:n]) {
				t.Errorf("Of %d with %d: %v", many, n, l)
			}
			for _, room := range []int{7, 8, 100, 247, 248, 249, 255, greatest} {
				if room >= 250 && many < k {
					// The last one is looked at there.
					continue
				}
				ids, e := Choose(flat(room), 0, jobs, api.Look{K: k, Reserved: 5})
				if e != api.OK || !slices.Equal(ids, upto(min(n, room/8))) {
					t.Errorf("Choose of %d with %d in %d: %v, %d", many, k, room, ids, e)
				}
				if ids, e = Choose(flat(room), 0, jobs, api.Look{K: k, Reserved: 4, Long: 80}); e != api.OK || !slices.Equal(ids, upto(min(n, room/8, 10))) {
					t.Errorf("Choose of %d with %d in %d, of which 80 for long ones: %v, %d", many, k, room, ids, e)
				}
			}
		}
	}
	// Those that have no room don't count: the window goes on behind them.
	jobs := append(alike(500, 9, 5), alike(40, 8, 5)...)
	if l := Of(flat(8), 0, jobs, mostK); !slices.Equal(l, jobs[500:500+mostK]) {
		t.Errorf("Of behind those without room: %v", l)
	}
	if ids, e := Choose(flat(8), 0, jobs, api.Look{K: 1}); e != api.OK || len(ids) != 0 {
		t.Errorf("Choose of a long one without a long room: %v, %d", ids, e)
	}
	if ids, e := Choose(flat(8), 0, jobs, api.Look{K: 1, Reserved: 5}); e != api.OK || !slices.Equal(ids, []int{1}) {
		t.Errorf("Choose behind those without room: %v, %d", ids, e)
	}
}

// Wi1, Wi2: all rows of three small steps, by all lists of three small jobs at most, at all times, with all looks.
func TestSmallByDefinition(t *testing.T) {
	lists := [][]api.Job{nil}
	last := lists
	for range 3 {
		var longer [][]api.Job
		for _, l := range last {
			for _, p := range [][2]int{{1, 1}, {1, 3}, {2, 1}, {2, 3}, {3, 2}} {
				longer = append(longer, append(slices.Clone(l), api.Job{Id: len(l) + 1, Width: p[0], Est: p[1]}))
			}
		}
		lists = append(lists, longer...)
		last = longer
	}
	for _, s := range [][]api.Step{
		flat(1), flat(3), {{At: 1, Free: 2}, {At: 3, Free: 4}}, {{At: 1, Free: 4}, {At: 3, Free: 2}}, {{At: 0, Free: 3}, {At: 2, Free: 0}}, {{At: 0, Free: 0}, {At: 2, Free: 3}},
		{{At: 0, Free: 3}, {At: 2, Free: 1}, {At: 3, Free: 2}}, {{At: 1, Free: 1}, {At: 2, Free: 5}, {At: 4, Free: 2}}, {{At: 1, Free: 2}, {At: 2, Free: 3}, {At: 3, Free: 6}},
	} {
		for _, jobs := range lists {
			for now := s[0].At; now < 5; now++ {
				for _, k := range []int{1, 2, 3} {
					for reserved := now; reserved < now+4; reserved++ {
						for long := range 4 {
							same(t, s, now, jobs, api.Look{K: k, Reserved: reserved, Long: long})
						}
					}
				}
			}
		}
	}
}

// Wi1, Wi2: longer lists by longer steps, of which still all rows are looked at, also at the last time and with a reserved time at edges.
func TestMixedByDefinition(t *testing.T) {
	for seed := range 400 {
		next := mixed(seed)
		widest := []int{4, 20, greatest}[next(3)]
		first := []int{0, 7, latest - 9}[next(3)]
		s := mixedSteps(next, first, 1+next(7), widest)
		jobs := mixedJobs(next, 1+next(20), 1+next(widest), 1+next(25))
		for range 6 {
			now := min(first+next(20), latest)
			x := api.Look{K: 1 + next(9), Reserved: now + next(25), Long: next(widest + 1)}
			same(t, s, now, jobs, x)
			x.Reserved = []int{math.MinInt, -1, now, never, math.MaxInt}[next(5)]
			same(t, s, now, jobs, x)
		}
	}
}

// together tells whether jobs that run from now on, and one that runs from a time on, have room by steps all of the time.
func together(s []api.Step, now int, jobs []api.Job, at int, reserved api.Job) bool {
	times := []int{now, at}
	for _, a := range s {
		times = append(times, max(a.At, now))
	}
	for _, t := range times {
		used := 0
		for _, j := range jobs {
			if t < now+j.Est {
				used += j.Width
			}
		}
		if at <= t && t < at+reserved.Est {
			used += reserved.Width
		}
		if free, _ := freeAt(s, t); used > free {
			return false
		}
	}
	return true
}

// Wi3: where what is free never falls, all that are chosen have room together with one that is reserved; and one more long processor would be one too many somewhere.
func TestTogether(t *testing.T) {
	full := 0
	for seed := range 600 {
		next := mixed(seed)
		widest := []int{4, 20, greatest}[next(3)]
		now := []int{0, 7, latest}[next(3)]
		s := mixedSteps(next, now, 1+next(7), widest)
		slices.SortFunc(s, func(a, b api.Step) int { return a.Free - b.Free })
		s = slices.CompactFunc(s, func(a, b api.Step) bool { return a.Free == b.Free })
		for n := range s {
			s[n].At = now + n*3
		}
		jobs := mixedJobs(next, 40, 1+next(widest), 1+next(25))
		for n := range jobs {
			jobs[n].Id = n + 1
		}
		at := now + next(20)
		free, _ := freeAt(s, at)
		if free == 0 {
			continue
		}
		reserved := api.Job{Width: 1 + next(free), Est: 1 + next(30)}
		ids, e := Choose(s, now, jobs, api.Look{K: 1 + next(mostK), Reserved: at, Long: free - reserved.Width})
		var chosen []api.Job
		long := 0
		for _, id := range ids {
			chosen = append(chosen, jobs[id-1])
			if now+jobs[id-1].Est > at {
				long += jobs[id-1].Width
			}
		}
		if e != api.OK || !together(s, now, chosen, at, reserved) {
			t.Fatalf("Choose(%v, %d, %v), %v reserved at %d: %v, %d", s, now, jobs, reserved, at, chosen, e)
		}
		if long == free-reserved.Width && long > 0 {
			full++
			reserved.Width++
			if together(s, now, chosen, at, reserved) {
				t.Fatalf("%v, %v reserved at %d, and %v: room for one more", s, reserved, at, chosen)
			}
		}
	}
	if full < 20 {
		t.Errorf("the long room was full %d times", full)
	}
}

// R3: nothing is written to what is handed in, and answers are new memory.
func TestNewMemory(t *testing.T) {
	s := []api.Step{{At: 0, Free: 3}, {At: 9, Free: 8}, {At: 12, Free: 1}}
	jobs := jobsOf([2]int{1, 20}, [2]int{2, 5}, [2]int{3, 3}, [2]int{1, 1})
	wasS, wasJobs := slices.Clone(s), slices.Clone(jobs)
	x := api.Look{K: 2, Reserved: 9, Long: 2}
	l := Of(s[:2], 0, jobs[:3], 2)
	items := Items(jobs[:3], 0, 9)
	ids, _ := Choose(s[:2], 0, jobs[:3], x)
	if !slices.Equal(s, wasS) || !slices.Equal(jobs, wasJobs) {
		t.Fatalf("turned: %v, %v", s, jobs)
	}
	l[0].Id, items[0].Width, ids[0] = 50, 50, 50
	_ = append(l, api.Job{Id: 51})
	if !slices.Equal(jobs, wasJobs) {
		t.Errorf("an answer is shared: %v", jobs)
	}
	again, _ := Choose(s[:2], 0, jobs[:3], x)
	jobs[0].Id = 60
	if !slices.Equal(again, []int{1, 2}) || l[1].Id != 2 {
		t.Errorf("an answer has turned: %v, %v", again, l)
	}
}

// Wi1 to Wi3 of any steps, jobs and looks: go test -run xxx -fuzz=FuzzWindows ./window.
func FuzzWindows(f *testing.F) {
	f.Add([]byte{3, 9, 8}, []byte{2, 19, 1, 4}, 0, 0, 5, 9, 2)
	f.Add([]byte{255, 1, 254, 2, 255}, []byte{255, 255, 0, 0, 128, 3}, latest-3, latest, 32, never, 256)
	f.Add([]byte{4}, []byte{1, 1}, 0, 5, 33, math.MinInt, 257)
	f.Fuzz(func(t *testing.T, turns, some []byte, first, now, k, reserved, long int) {
		// What is free, and behind it how long it stays so, in turn.
		var s []api.Step
		at := first
		for n, b := range turns {
			if n%2 == 1 {
				at += 1 + int(b)
			} else if len(s) == 0 || s[len(s)-1].Free != int(b) {
				s = append(s, api.Step{At: at, Free: int(b)})
			}
		}
		var jobs []api.Job
		for n := 1; n < len(some); n += 2 {
			jobs = append(jobs, api.Job{Id: n, Width: int(some[n-1]), Est: int(int8(some[n]))})
		}
		x := api.Look{K: k, Reserved: reserved, Long: long}
		mayBe := len(s) > 0 && 0 <= first && first <= latest
		if mayBe && 1 <= k && k <= mostK && len(jobs) <= 12 && first <= now && now <= latest && 0 <= long && long <= greatest {
			same(t, s, now, jobs, x)
			return
		}
		if !mayBe || k < 1 || k > mostK || now < first || now > latest {
			if l := Of(s, now, jobs, k); len(l) != 0 {
				t.Errorf("Of(%v, %d, %v, %d) = %v", s, now, jobs, k, l)
			}
			wrong(t, s, now, jobs, x)
		}
		if l := Items(jobs, now, reserved); !slices.Equal(l, meantItems(jobs, now, reserved)) {
			t.Errorf("Items(%v, %d, %d) = %v", jobs, now, reserved, l)
		}
	})
}
