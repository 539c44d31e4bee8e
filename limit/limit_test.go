package limit

import (
	"math"
	"slices"
	"strings"
	"testing"

	"stint/api"
)

const (
	allJobs  = 100
	allProcs = 256
	latest   = api.MaxTime
)

// of is a limit of a user.
func of(user string, jobs, procs int) api.Limit {
	return api.Limit{User: user, Jobs: jobs, Procs: procs}
}

// used is a use of a user.
func used(user string, jobs, procs int) api.Use {
	return api.Use{User: user, Jobs: jobs, Procs: procs}
}

// ask is a user's job that waits, of a width.
func ask(user string, width int) api.Job {
	return api.Job{Id: 1, User: user, Width: width, Est: 9, Sub: 2, State: api.JobQueued}
}

// going is a user's job that runs, of a width.
func going(id int, user string, width int) api.Job {
	return api.Job{Id: id, User: user, Width: width, Est: 9, Sub: 2, State: api.JobRunning, Start: 5}
}

// names are names, and noNames are none.
func names() []string {
	return []string{"a", "z", "az", "ann", "abcdefghijklmnop", "qrstuvwxyz", "zzzzzzzzzzzzzzzz"}
}

func noNames() []string {
	return []string{"", "A", "aZ", " ", "a ", " a", "a1", "0", "a-b", "`", "{", "é", "aé", "ａ", "\x00", "a\x00", "a\xff", "\xff", "abcdefghijklmnopq", strings.Repeat("a", 1<<16)}
}

// ends are ints at which something turns, the least and the greatest int among them.
func ends() []int {
	return []int{math.MinInt, math.MinInt + 1, -allProcs, -1, 0, 1, 2, allJobs - 1, allJobs, allJobs + 1, allProcs - 1, allProcs, allProcs + 1, math.MaxInt - 1, math.MaxInt}
}

// noLimits are limits that may not be, each by one thing alone.
func noLimits() []api.Limit {
	l := []api.Limit{{},
		of("m", -1, 8), of("m", math.MinInt, 8), of("m", allJobs+1, 8), of("m", allProcs, 8), of("m", math.MaxInt, 8),
		of("m", 1, -1), of("m", 1, math.MinInt), of("m", 1, allProcs+1), of("m", 1, math.MaxInt),
	}
	for _, name := range noNames() {
		l = append(l, of(name, 1, 8))
	}
	return l
}

// noJobs are jobs of ann that may not be, each by one thing alone, but for the zero job.
func noJobs(state int) []api.Job {
	l := []api.Job{{}}
	for _, turn := range []func(j *api.Job){
		func(j *api.Job) { j.Id = 0 }, func(j *api.Job) { j.Id = 1<<30 + 1 }, func(j *api.Job) { j.Width = 0 }, func(j *api.Job) { j.Width = -3 }, func(j *api.Job) { j.Width = math.MinInt }, func(j *api.Job) { j.Width = allProcs + 1 }, func(j *api.Job) { j.Width = math.MaxInt },
		func(j *api.Job) { j.Est = 0 }, func(j *api.Job) { j.Est = api.MaxEst + 1 }, func(j *api.Job) { j.Prio = -1 }, func(j *api.Job) { j.Prio = api.MaxPrio + 1 }, func(j *api.Job) { j.Sub = -1 }, func(j *api.Job) { j.Sub = latest + 1 },
		func(j *api.Job) { j.State = -1 }, func(j *api.Job) { j.State = 6 }, func(j *api.Job) { j.Start = -1 }, func(j *api.Job) { j.Start = 1 }, func(j *api.Job) { j.Start = latest + 1 }, func(j *api.Job) { j.End = -1 }, func(j *api.Job) { j.End = 7 },
	} {
		j := ask("ann", 2)
		if state == api.JobRunning {
			j = going(1, "ann", 2)
		}
		turn(&j)
		l = append(l, j)
	}
	return l
}

// rows are limits of so many users, rising.
func rows(many int) []api.Limit {
	var l []api.Limit
	for n := range many {
		l = append(l, of(nth(n), n, 2*n))
	}
	return l
}

// nth is a name, of which each is behind those of lesser numbers.
func nth(n int) string {
	const letters = "abcdefghijklmnopqrstuvwxyz"
	return letters[n/676:n/676+1] + letters[n/26%26:n/26%26+1] + letters[n%26:n%26+1]
}

// few are limits of which some have one user, and one may not be.
func few() []api.Limit {
	return []api.Limit{of("a", 1, 4), of("aa", 0, 0), of("b", allJobs, allProcs), of("b", 2, 1), of("ba", 1, 1), of("c", 0, 9), of("C", 1, 1), of("c", 1, -1)}
}

// lists are all lists of so many limits out of these at most.
func lists(some []api.Limit, most int) [][]api.Limit {
	l := [][]api.Limit{nil}
	longest := l
	for range most {
		var longer [][]api.Limit
		for _, shorter := range longest {
			for _, x := range some {
				longer = append(longer, append(slices.Clone(shorter), x))
			}
		}
		l = append(l, longer...)
		longest = longer
	}
	return l
}

// meantName is a name by definition.
func meantName(s string) bool {
	for n := range len(s) {
		if strings.IndexByte("abcdefghijklmnopqrstuvwxyz", s[n]) < 0 {
			return false
		}
	}
	return 1 <= len(s) && len(s) <= 16
}

// meantMayBe tells by definition whether a limit may be.
func meantMayBe(x api.Limit) bool {
	return meantName(x.User) && 0 <= x.Jobs && x.Jobs <= allJobs && 0 <= x.Procs && x.Procs <= allProcs
}

// meantCheck tells by definition why limits may not be: of all pairs the one in front is ahead.
func meantCheck(l []api.Limit) api.Errno {
	if len(l) > 50 {
		return api.ErrFull
	}
	for at, x := range l {
		if !meantMayBe(x) {
			return api.ErrArg
		}
		for _, other := range l[:at] {
			if other.User >= x.User {
				return api.ErrArg
			}
		}
	}
	return api.OK
}

// meantSet tells by definition what limits are with one set: that one, behind those of users ahead, and ahead of those of users behind.
func meantSet(l []api.Limit, x api.Limit) ([]api.Limit, api.Errno) {
	if e := meantCheck(l); e != api.OK {
		return nil, e
	}
	if !meantMayBe(x) {
		return nil, api.ErrArg
	}
	var ahead, behind []api.Limit
	for _, other := range l {
		if other.User < x.User {
			ahead = append(ahead, other)
		}
		if other.User > x.User {
			behind = append(behind, other)
		}
	}
	then := slices.Concat(ahead, []api.Limit{x}, behind)
	if len(then) > 50 {
		return nil, api.ErrFull
	}
	return then, api.OK
}

// meantDrop tells by definition what limits are without a user's one.
func meantDrop(l []api.Limit, user string) ([]api.Limit, api.Errno) {
	if e := meantCheck(l); e != api.OK {
		return nil, e
	}
	var then []api.Limit
	for _, x := range l {
		if x.User != user {
			then = append(then, x)
		}
	}
	if len(then) == len(l) {
		return nil, api.ErrNone
	}
	return then, api.OK
}

// meantUses counts by definition the use of jobs of which those that run all may be, user by user, out of these that rise.
func meantUses(jobs []api.Job, users []string) []api.Use {
	var l []api.Use
	for _, user := range users {
		many, wide := 0, 0
		for _, j := range jobs {
			if j.User == user && j.State == 2 {
				many++
				wide += j.Width
			}
		}
		if many > 0 {
			l = append(l, used(user, many, wide))
		}
	}
	return l
}

// meantRest counts by definition what is left: of the places 1 to limit those behind the use.
func meantRest(limit, use int) int {
	many := 0
	for n := 1; n <= limit; n++ {
		if n > use {
			many++
		}
	}
	return many
}

// meantFirst is by definition the first use of a user.
func meantFirst(u []api.Use, user string) (jobs, procs int) {
	for n := len(u) - 1; n >= 0; n-- {
		if u[n].User == user {
			jobs, procs = u[n].Jobs, u[n].Procs
		}
	}
	return jobs, procs
}

// meantLeft tells by definition what is left to a user.
func meantLeft(l []api.Limit, u []api.Use, user string) (jobs, procs int) {
	if meantCheck(l) != api.OK {
		return 0, 0
	}
	jobs, procs = meantFirst(u, user)
	for _, x := range l {
		if x.User == user {
			return meantRest(x.Jobs, jobs), meantRest(x.Procs, procs)
		}
	}
	return allJobs, allProcs
}

// meantMay tells by definition whether a job that may be may run: with it no more jobs run, and no more processors are used, than the limit has.
func meantMay(l []api.Limit, u []api.Use, j api.Job) bool {
	if meantCheck(l) != api.OK {
		return false
	}
	jobs, procs := meantFirst(u, j.User)
	jobs, procs = max(jobs, 0), max(procs, 0)
	for _, x := range l {
		// What is used alone already, held first, can't run over with the job.
		if x.User == j.User && (jobs > x.Jobs || procs > x.Procs || jobs+1 > x.Jobs || procs+j.Width > x.Procs) {
			return false
		}
	}
	return true
}

func wantCheck(t *testing.T, want api.Errno, l ...api.Limit) {
	t.Helper()
	handed := slices.Clone(l)
	if e := Check(handed); e != want {
		t.Errorf("Check(%v) = %d; want %d", l, e, want)
	}
	if !slices.Equal(handed, l) {
		t.Errorf("Check has turned %v into %v", l, handed)
	}
}

func checkSet(t *testing.T, l []api.Limit, x api.Limit) {
	t.Helper()
	handed := slices.Clone(l)
	then, e := Set(handed, x)
	want, f := meantSet(l, x)
	if !slices.Equal(then, want) || e != f {
		t.Fatalf("Set(%v, %v) = %v, %d; meant: %v, %d", l, x, then, e, want, f)
	}
	if !slices.Equal(handed, l) {
		t.Fatalf("Set has turned %v into %v", l, handed)
	}
	if e == api.OK && Check(then) != api.OK {
		t.Fatalf("Set(%v, %v) = %v, which may not be", l, x, then)
	}
}

func checkDrop(t *testing.T, l []api.Limit, user string) {
	t.Helper()
	handed := slices.Clone(l)
	then, e := Drop(handed, user)
	want, f := meantDrop(l, user)
	if !slices.Equal(then, want) || e != f {
		t.Fatalf("Drop(%v, %q) = %v, %d; meant: %v, %d", l, user, then, e, want, f)
	}
	if !slices.Equal(handed, l) {
		t.Fatalf("Drop has turned %v into %v", l, handed)
	}
	if e == api.OK && Check(then) != api.OK {
		t.Fatalf("Drop(%v, %q) = %v, which may not be", l, user, then)
	}
}

func checkLeft(t *testing.T, l []api.Limit, u []api.Use, user string) {
	t.Helper()
	limits, uses := slices.Clone(l), slices.Clone(u)
	jobs, procs := Left(limits, uses, user)
	wantJobs, wantProcs := meantLeft(l, u, user)
	if jobs != wantJobs || procs != wantProcs {
		t.Fatalf("Left(%v, %v, %q) = %d, %d; meant: %d, %d", l, u, user, jobs, procs, wantJobs, wantProcs)
	}
	if !slices.Equal(limits, l) || !slices.Equal(uses, u) {
		t.Fatalf("Left has turned what it was handed into %v and %v", limits, uses)
	}
}

// checkMay holds May of a job that may be against the definition.
func checkMay(t *testing.T, l []api.Limit, u []api.Use, j api.Job) {
	t.Helper()
	limits, uses := slices.Clone(l), slices.Clone(u)
	if ok, want := May(limits, uses, j), meantMay(l, u, j); ok != want {
		t.Fatalf("May(%v, %v, %v) = %t; meant: %t", l, u, j, ok, want)
	}
	if !slices.Equal(limits, l) || !slices.Equal(uses, u) {
		t.Fatalf("May has turned what it was handed into %v and %v", limits, uses)
	}
}

// Li1: a name, and numbers, the least and the greatest ones among them.
func TestCheckOne(t *testing.T) {
	wantCheck(t, api.OK)
	if e := Check([]api.Limit{}); e != api.OK {
		t.Errorf("Check of an empty list: %d", e)
	}
	for _, name := range names() {
		wantCheck(t, api.OK, of(name, 1, 8))
	}
	for _, jobs := range ends() {
		for _, procs := range ends() {
			want := api.ErrArg
			if 0 <= jobs && jobs <= allJobs && 0 <= procs && procs <= allProcs {
				want = api.OK
			}
			wantCheck(t, want, of("ann", jobs, procs))
		}
	}
	for _, x := range noLimits() {
		wantCheck(t, api.ErrArg, x)
	}
}

// Li1: they rise by User, byte by byte, and no two are of one; what else they have is nothing to that.
func TestCheckRises(t *testing.T) {
	sorted := []string{"a", "aa", "aaaaaaaaaaaaaaaa", "ab", "ann", "anna", "b", "ba", "bob", "z", "zz"}
	for a, first := range sorted {
		for b, second := range sorted {
			want := api.ErrArg
			if a < b {
				want = api.OK
			}
			wantCheck(t, want, of(first, 9, 9), of(second, 1, 1))
			wantCheck(t, want, of(first, 1, 1), of(second, 9, 9))
		}
	}
	a, b, c := of("a", 1, 1), of("b", 1, 1), of("c", 1, 1)
	wantCheck(t, api.OK, a, b, c)
	for _, l := range [][]api.Limit{{a, c, b}, {b, a, c}, {b, c, a}, {c, a, b}, {c, b, a}, {a, a, b}, {a, b, b}, {a, b, a}, {a, a, a}} {
		wantCheck(t, api.ErrArg, l...)
	}
}

// Li1: 50 at most, at any of whose places one may be that may not be, or that does not rise.
func TestCheckMany(t *testing.T) {
	for many := range 60 {
		want := api.OK
		if many > 50 {
			want = api.ErrFull
		}
		wantCheck(t, want, rows(many)...)
	}
	for at := range 50 {
		for _, x := range noLimits() {
			l := rows(50)
			x.User = strings.ReplaceAll(x.User, "m", l[at].User)
			l[at] = x
			wantCheck(t, api.ErrArg, l...)
		}
		if at > 0 {
			l := rows(50)
			l[at].User = l[at-1].User
			wantCheck(t, api.ErrArg, l...)
			l[at].User, l[at-1].User = l[at-1].User, nth(at)
			wantCheck(t, api.ErrArg, l...)
		}
	}
}

// Li1: too many ahead of what may not be.
func TestCheckFirstError(t *testing.T) {
	wantCheck(t, api.ErrFull, make([]api.Limit, 51)...)
	wantCheck(t, api.ErrArg, make([]api.Limit, 50)...)
	wantCheck(t, api.ErrFull, make([]api.Limit, 1<<16)...)
	wantCheck(t, api.ErrFull, slices.Repeat([]api.Limit{of("a", 1, 1)}, 51)...)
	wantCheck(t, api.ErrArg, slices.Repeat([]api.Limit{of("a", 1, 1)}, 50)...)
	for _, x := range noLimits() {
		wantCheck(t, api.ErrFull, append(rows(50), x)...)
		wantCheck(t, api.ErrFull, append([]api.Limit{x}, rows(50)...)...)
	}
}

// Li1: in its place, or in that of the one of its User.
func TestSet(t *testing.T) {
	ann, bob, cy := of("ann", 1, 8), of("bob", 2, 9), of("cy", allJobs, allProcs)
	for _, c := range []struct {
		l    []api.Limit
		x    api.Limit
		want []api.Limit
	}{
		{nil, ann, []api.Limit{ann}}, {[]api.Limit{}, ann, []api.Limit{ann}},
		{[]api.Limit{ann}, bob, []api.Limit{ann, bob}}, {[]api.Limit{bob}, ann, []api.Limit{ann, bob}}, {[]api.Limit{ann, cy}, bob, []api.Limit{ann, bob, cy}}, {[]api.Limit{bob, cy}, ann, []api.Limit{ann, bob, cy}}, {[]api.Limit{ann, bob}, cy, []api.Limit{ann, bob, cy}},
		{[]api.Limit{ann}, of("anna", 0, 0), []api.Limit{ann, of("anna", 0, 0)}}, {[]api.Limit{ann}, of("an", 0, 0), []api.Limit{of("an", 0, 0), ann}},
		{[]api.Limit{ann}, of("ann", 0, 0), []api.Limit{of("ann", 0, 0)}}, {[]api.Limit{ann, bob, cy}, of("bob", 0, 3), []api.Limit{ann, of("bob", 0, 3), cy}}, {[]api.Limit{ann, bob, cy}, of("cy", 1, 1), []api.Limit{ann, bob, of("cy", 1, 1)}}, {[]api.Limit{ann, bob}, ann, []api.Limit{ann, bob}},
	} {
		if then, e := Set(c.l, c.x); !slices.Equal(then, c.want) || e != api.OK {
			t.Errorf("Set(%v, %v) = %v, %d; want %v", c.l, c.x, then, e, c.want)
		}
	}
}

// Li1: limits' own error, then that of the one to be set, then that there would be too many.
func TestSetErrors(t *testing.T) {
	for _, c := range []struct {
		l    []api.Limit
		x    api.Limit
		want api.Errno
	}{
		{rows(51), of("b", 1, 1), api.ErrFull}, {rows(51), of("B", 1, 1), api.ErrFull}, {rows(51), rows(51)[3], api.ErrFull}, {make([]api.Limit, 51), of("b", 1, 1), api.ErrFull},
		{[]api.Limit{{}}, of("b", 1, 1), api.ErrArg}, {[]api.Limit{of("b", 1, -1)}, of("b", 1, 1), api.ErrArg}, {[]api.Limit{of("b", 1, 1), of("a", 1, 1)}, of("b", 1, 1), api.ErrArg}, {[]api.Limit{of("b", 1, 1), of("b", 1, 1)}, of("b", 1, 1), api.ErrArg},
		{rows(50), of("zz", 1, 1), api.ErrFull}, {rows(50), of("a", 1, 1), api.ErrFull}, {rows(50), of("aaxa", 0, 0), api.ErrFull}, {rows(50), of("Zz", 1, 1), api.ErrArg}, {rows(50), of("zz", -1, 1), api.ErrArg}, {rows(50), of(nth(7), 1, allProcs+1), api.ErrArg},
	} {
		if then, e := Set(c.l, c.x); len(then) > 0 || e != c.want {
			t.Errorf("Set(%v, %v) = %v, %d; want %d", c.l, c.x, then, e, c.want)
		}
	}
	for _, x := range noLimits() {
		for _, l := range [][]api.Limit{nil, rows(3), rows(50), {of("m", 1, 1)}} {
			if then, e := Set(l, x); len(then) > 0 || e != api.ErrArg {
				t.Errorf("Set(%v, %v) = %v, %d", l, x, then, e)
			}
		}
	}
}

// Li1: the 50th one may be set, and one of 50 may be set anew.
func TestSetMany(t *testing.T) {
	for many := range 53 {
		l := rows(many)
		for n := range 53 {
			checkSet(t, l, of(nth(n), 3, 3))
			checkSet(t, l, of(nth(n)+"a", 3, 3))
			checkDrop(t, l, nth(n))
			checkDrop(t, l, nth(n)+"a")
		}
		checkSet(t, l, of("a", 0, 0))
		checkSet(t, l, of("z", 0, 0))
	}
}

// Li1: without the one of that user; ErrNone, if there is none, also of what is no name.
func TestDrop(t *testing.T) {
	ann, bob, cy := of("ann", 1, 8), of("bob", 2, 9), of("cy", 0, 0)
	for _, c := range []struct {
		l    []api.Limit
		user string
		want []api.Limit
		e    api.Errno
	}{
		{[]api.Limit{ann, bob, cy}, "ann", []api.Limit{bob, cy}, api.OK}, {[]api.Limit{ann, bob, cy}, "bob", []api.Limit{ann, cy}, api.OK}, {[]api.Limit{ann, bob, cy}, "cy", []api.Limit{ann, bob}, api.OK}, {[]api.Limit{ann}, "ann", nil, api.OK},
		{[]api.Limit{ann}, "bob", nil, api.ErrNone}, {[]api.Limit{ann}, "an", nil, api.ErrNone}, {[]api.Limit{ann}, "anna", nil, api.ErrNone}, {[]api.Limit{ann, cy}, "bob", nil, api.ErrNone}, {[]api.Limit{bob}, "ann", nil, api.ErrNone}, {nil, "ann", nil, api.ErrNone}, {[]api.Limit{}, "ann", nil, api.ErrNone},
		{[]api.Limit{ann}, "Ann", nil, api.ErrNone}, {[]api.Limit{ann}, "", nil, api.ErrNone}, {nil, "", nil, api.ErrNone}, {[]api.Limit{ann, bob}, "ann bob", nil, api.ErrNone},
		{[]api.Limit{{}}, "", nil, api.ErrArg}, {[]api.Limit{{}}, "ann", nil, api.ErrArg}, {[]api.Limit{bob, ann}, "ann", nil, api.ErrArg}, {[]api.Limit{bob, ann}, "cy", nil, api.ErrArg}, {[]api.Limit{ann, ann}, "ann", nil, api.ErrArg}, {[]api.Limit{of("ann", -1, 8)}, "ann", nil, api.ErrArg},
		{rows(51), nth(0), nil, api.ErrFull}, {rows(51), "zz", nil, api.ErrFull}, {make([]api.Limit, 51), "", nil, api.ErrFull},
	} {
		if then, e := Drop(c.l, c.user); !slices.Equal(then, c.want) || e != c.e {
			t.Errorf("Drop(%v, %q) = %v, %d; want %v, %d", c.l, c.user, then, e, c.want, c.e)
		}
	}
	for _, user := range noNames() {
		checkDrop(t, []api.Limit{ann, bob, cy}, user)
	}
}

// Li1: all lists of four limits out of a few at most, by each of these, and by each user.
func TestListsByDefinition(t *testing.T) {
	uses := []api.Use{used("b", 1, 3), used("a", 0, 2), used("b", 0, 0)}
	for _, l := range lists(few(), 4) {
		if e, want := Check(l), meantCheck(l); e != want {
			t.Fatalf("Check(%v) = %d; meant: %d", l, e, want)
		}
		for _, x := range append(few(), of("", 1, 1), of("bb", 3, 3)) {
			checkSet(t, l, x)
			checkDrop(t, l, x.User)
			checkLeft(t, l, uses, x.User)
		}
		for _, user := range []string{"a", "aa", "b", "ba", "c", "d"} {
			checkMay(t, l, uses, ask(user, 1))
			checkMay(t, l, uses, ask(user, 2))
		}
	}
}

// Li2: of each user of running ones, rising; each job counts, also one whose Id another one has.
func TestUses(t *testing.T) {
	jobs := []api.Job{going(7, "cy", 3), going(2, "ann", 256), going(3, "bob", 1), going(2, "ann", 256), ask("dan", 4), going(9, "ann", 1), going(1, "cy", 3), going(8, "c", 9)}
	want := []api.Use{used("ann", 3, 513), used("bob", 1, 1), used("c", 1, 9), used("cy", 2, 6)}
	for range len(jobs) {
		jobs = append(jobs[1:], jobs[0])
		if u := Uses(jobs); !slices.Equal(u, want) {
			t.Errorf("Uses(%v) = %v; want %v", jobs, u, want)
		}
	}
	for _, jobs := range [][]api.Job{nil, {}, {ask("ann", 1)}, {{}}} {
		if u := Uses(jobs); len(u) > 0 {
			t.Errorf("Uses(%v) = %v", jobs, u)
		}
	}
}

// Li2: running ones count, and none of another state; what may not be does not.
func TestUsesOfState(t *testing.T) {
	held, queued, done, killed, stopped, gone := ask("ann", 2), ask("ann", 2), going(1, "ann", 2), going(1, "ann", 2), going(1, "ann", 2), ask("ann", 2)
	held.State, gone.State = api.JobHeld, api.JobCancelled
	done.State, done.End = api.JobDone, 9
	killed.State, killed.End = api.JobKilled, 14
	stopped.State, stopped.End = api.JobCancelled, 9
	none := append(noJobs(api.JobRunning), held, queued, done, killed, stopped, gone)
	for _, name := range noNames() {
		none = append(none, going(1, name, 2))
	}
	for _, j := range none {
		if u := Uses([]api.Job{j}); len(u) > 0 {
			t.Errorf("Uses of %v: %v", j, u)
		}
		if u := Uses([]api.Job{j, going(5, "ann", 3), j, going(6, "ann", 4), j}); !slices.Equal(u, []api.Use{used("ann", 2, 7)}) {
			t.Errorf("Uses beside %v: %v", j, u)
		}
	}
	late := going(1<<30, "zzzzzzzzzzzzzzzz", 256)
	late.Est, late.Prio, late.Sub, late.Start = api.MaxEst, api.MaxPrio, latest, latest
	if u := Uses([]api.Job{late}); !slices.Equal(u, []api.Use{used("zzzzzzzzzzzzzzzz", 1, 256)}) {
		t.Errorf("Uses of %v: %v", late, u)
	}
}

// Li2: many jobs of many users, counted user by user.
func TestUsesByDefinition(t *testing.T) {
	var users []string
	for n := range 500 {
		users = append(users, nth(n))
	}
	var jobs []api.Job
	for n := range 1 << 14 {
		j := going(1+n%99, users[n*37%487], 1+n%256)
		if n%3 == 0 {
			j = ask(users[n%500], 1+n%256)
		}
		jobs = append(jobs, j)
		if n < 300 || n%1000 == 0 {
			handed := slices.Clone(jobs)
			if u, want := Uses(handed), meantUses(jobs, users); !slices.Equal(u, want) {
				t.Fatalf("Uses of %d jobs: %v; meant: %v", len(jobs), u, want)
			}
			if !slices.Equal(handed, jobs) {
				t.Fatal("Uses has turned what it was handed")
			}
		}
	}
	slices.Reverse(jobs)
	if u, want := Uses(jobs), meantUses(jobs, users); !slices.Equal(u, want) {
		t.Fatalf("Uses: %v; meant: %v", u, want)
	}
}

// Li2: the limit less the first use; all, if there is no limit; nothing of limits that may not be.
func TestLeft(t *testing.T) {
	l := []api.Limit{of("ann", 1, 8), of("bob", allJobs, allProcs), of("cy", 0, 0)}
	wrong := []api.Limit{of("ann", 5, 5), of("bob", 5, 257)}
	for _, c := range []struct {
		l           []api.Limit
		u           []api.Use
		user        string
		jobs, procs int
	}{
		{l, nil, "ann", 1, 8}, {l, []api.Use{}, "bob", allJobs, allProcs}, {l, nil, "cy", 0, 0}, {l, []api.Use{used("bob", 1, 1)}, "ann", 1, 8},
		{l, []api.Use{used("ann", 1, 3)}, "ann", 0, 5}, {l, []api.Use{used("ann", 0, 8)}, "ann", 1, 0}, {l, []api.Use{used("ann", 2, 9)}, "ann", 0, 0}, {l, []api.Use{used("ann", 9, 3)}, "ann", 0, 5}, {l, []api.Use{used("ann", 0, 99)}, "ann", 1, 0}, {l, []api.Use{used("bob", 99, 255)}, "bob", 1, 1}, {l, []api.Use{used("cy", 1, 1)}, "cy", 0, 0},
		{l, []api.Use{used("bob", 7, 7), used("ann", 0, 1), used("ann", 1, 5)}, "ann", 1, 7}, {l, []api.Use{used("ann", 0, 0), used("ann", 1, 5)}, "ann", 1, 8}, {l, []api.Use{used("bob", 3, 4), used("ann", 1, 1)}, "bob", 97, 252},
		{l, []api.Use{used("ann", -1, -1)}, "ann", 1, 8}, {l, []api.Use{used("ann", -5, 3)}, "ann", 1, 5}, {l, []api.Use{used("ann", 1, -5)}, "ann", 0, 8}, {l, []api.Use{used("ann", math.MinInt, math.MinInt)}, "ann", 1, 8}, {l, []api.Use{used("ann", math.MaxInt, math.MaxInt)}, "ann", 0, 0}, {l, []api.Use{used("cy", math.MinInt, math.MaxInt)}, "cy", 0, 0},
		{l, nil, "dan", allJobs, allProcs}, {l, []api.Use{used("dan", 5, 5)}, "dan", allJobs, allProcs}, {l, []api.Use{used("dan", math.MaxInt, math.MaxInt)}, "dan", allJobs, allProcs}, {nil, []api.Use{used("ann", 200, 300)}, "ann", allJobs, allProcs}, {[]api.Limit{}, nil, "ann", allJobs, allProcs}, {l, nil, "", allJobs, allProcs}, {l, nil, "Ann", allJobs, allProcs},
		{wrong, nil, "ann", 0, 0}, {wrong, nil, "dan", 0, 0}, {[]api.Limit{{}}, nil, "", 0, 0}, {[]api.Limit{of("b", 1, 1), of("a", 1, 1)}, nil, "a", 0, 0}, {[]api.Limit{of("a", 1, 1), of("a", 1, 1)}, nil, "a", 0, 0}, {rows(51), nil, nth(9), 0, 0}, {rows(51), nil, "zz", 0, 0}, {rows(50), nil, nth(49), 49, 98}, {rows(50), nil, "zz", allJobs, allProcs},
	} {
		if jobs, procs := Left(c.l, c.u, c.user); jobs != c.jobs || procs != c.procs {
			t.Errorf("Left(%v, %v, %q) = %d, %d; want %d, %d", c.l, c.u, c.user, jobs, procs, c.jobs, c.procs)
		}
		checkLeft(t, c.l, c.u, c.user)
	}
}

// Li2: all limits by all uses at edges.
func TestLeftByDefinition(t *testing.T) {
	for _, mayRun := range []int{0, 1, 2, allJobs - 1, allJobs} {
		for _, mayUse := range []int{0, 1, 2, allProcs - 1, allProcs} {
			l := []api.Limit{of("a", 3, 3), of("ann", mayRun, mayUse), of("b", 4, 4)}
			for _, jobs := range ends() {
				for _, procs := range ends() {
					u := []api.Use{used("b", 1, 1), used("ann", jobs, procs), used("ann", 0, 0)}
					checkLeft(t, l, u, "ann")
					checkLeft(t, l, u, "b")
					checkLeft(t, l, u, "cy")
					for _, width := range []int{1, 2, allProcs - 1, allProcs} {
						checkMay(t, l, u, ask("ann", width))
						checkMay(t, l, u, ask("cy", width))
					}
				}
			}
		}
	}
}

// Li2: one job is left, and its Width is.
func TestMay(t *testing.T) {
	l := []api.Limit{of("ann", 1, 8), of("bob", 3, 4), of("cy", 0, 9), of("dan", 9, 0)}
	for _, c := range []struct {
		u     []api.Use
		user  string
		width int
		want  bool
	}{
		{nil, "ann", 1, true}, {nil, "ann", 8, true}, {nil, "ann", 9, false}, {nil, "ann", allProcs, false}, {[]api.Use{used("bob", 3, 4)}, "ann", 8, true},
		{[]api.Use{used("ann", 1, 3)}, "ann", 2, false}, {[]api.Use{used("ann", 1, 0)}, "ann", 1, false}, {[]api.Use{used("ann", 0, 6)}, "ann", 2, true}, {[]api.Use{used("ann", 0, 7)}, "ann", 2, false}, {[]api.Use{used("ann", 0, 8)}, "ann", 1, false},
		{[]api.Use{used("bob", 2, 2)}, "bob", 2, true}, {[]api.Use{used("bob", 2, 2)}, "bob", 3, false}, {[]api.Use{used("bob", 3, 3)}, "bob", 1, false}, {[]api.Use{used("bob", 1, 3)}, "bob", 1, true}, {[]api.Use{used("bob", 4, 9)}, "bob", 1, false},
		{nil, "cy", 1, false}, {nil, "dan", 1, false}, {[]api.Use{used("cy", -9, -9)}, "cy", 1, false}, {[]api.Use{used("dan", -9, -9)}, "dan", 1, false}, {[]api.Use{used("ann", -9, -9)}, "ann", 8, true}, {[]api.Use{used("ann", -9, -9)}, "ann", 9, false}, {[]api.Use{used("ann", math.MinInt, math.MinInt)}, "ann", 9, false},
		{nil, "zoe", allProcs, true}, {[]api.Use{used("zoe", allJobs, allProcs)}, "zoe", allProcs, true}, {[]api.Use{used("zoe", math.MaxInt, math.MaxInt)}, "zoe", 1, true}, {[]api.Use{used("ann", math.MaxInt, math.MaxInt)}, "ann", 1, false},
		{[]api.Use{used("ann", 0, 1), used("ann", 1, 8)}, "ann", 7, true}, {[]api.Use{used("ann", 1, 8), used("ann", 0, 1)}, "ann", 1, false},
	} {
		if ok := May(l, c.u, ask(c.user, c.width)); ok != c.want {
			t.Errorf("May(%v, %v) of %d wide: %t; want %t", c.u, c.user, c.width, ok, c.want)
		}
	}
	one := going(4, "eve", 3)
	if May([]api.Limit{of("eve", 1, 8)}, Uses([]api.Job{one}), ask("eve", 1)) {
		t.Error("the document's example: another one may run")
	}
}

// Li2: a job that may not be may not run, also where no limit is; nor any by limits that may not be.
func TestMayOfNone(t *testing.T) {
	none := noJobs(api.JobQueued)
	for _, name := range noNames() {
		none = append(none, ask(name, 2))
	}
	for _, j := range none {
		for _, l := range [][]api.Limit{nil, {of("ann", allJobs, allProcs)}, rows(50), {of("ann", 0, 0)}} {
			if May(l, nil, j) || May(l, []api.Use{used(j.User, math.MinInt, math.MinInt)}, j) {
				t.Errorf("May(%v, %v)", l, j)
			}
		}
	}
	for _, l := range [][]api.Limit{rows(51), {{}}, {of("zoe", 9, 9), of("ann", 9, 9)}, {of("ann", 9, 9), of("ann", 9, 9)}, {of("ann", allJobs+1, 9)}, {of("ann", 9, 9), of("zoe", 9, -1)}} {
		for _, user := range []string{"ann", "bob", "zoe", nth(3)} {
			if May(l, nil, ask(user, 1)) || May(l, []api.Use{used(user, -1, -1)}, ask(user, 1)) {
				t.Errorf("May(%v) of %s", l, user)
			}
		}
	}
}

// Li2: whatever the state of a job that may be is.
func TestMayOfState(t *testing.T) {
	l := []api.Limit{of("ann", 1, 8), of("bob", 1, 1)}
	for state := api.JobHeld; state <= api.JobCancelled; state++ {
		for _, user := range []string{"ann", "bob"} {
			j := ask(user, 2)
			switch state {
			case api.JobRunning:
				j = going(1, user, 2)
			case api.JobDone, api.JobKilled:
				j = going(1, user, 2)
				j.End = 14
			}
			j.State = state
			if ok := May(l, nil, j); ok != (user == "ann") {
				t.Errorf("May(%v) = %t", j, ok)
			}
		}
	}
}

// Li3: what may run with less use may run.
func TestLessUse(t *testing.T) {
	for n := range 16 {
		l := []api.Limit{of("ann", n%4, n/4)}
		for width := 1; width <= 4; width++ {
			for jobs := -1; jobs <= 4; jobs++ {
				for procs := -1; procs <= 4; procs++ {
					ok := May(l, []api.Use{used("ann", jobs, procs)}, ask("ann", width))
					fewer := May(l, []api.Use{used("ann", jobs-1, procs)}, ask("ann", width))
					narrower := May(l, []api.Use{used("ann", jobs, procs-1)}, ask("ann", width))
					none := May(l, nil, ask("ann", width))
					if ok && !(fewer && narrower && none) {
						t.Fatalf("by %v: %d wide with %d jobs of %d processors, but not with less: %t, %t, %t", l, width, jobs, procs, fewer, narrower, none)
					}
				}
			}
		}
	}
}

// Li2, Li3: jobs of all lists that are let in one by one keep within the limit, and one that is not let in would not.
func TestLetIn(t *testing.T) {
	for n := range 1 << 10 {
		l := []api.Limit{of("ann", n%4, n/4%8)}
		var run []api.Job
		wide := 0
		for at := range 5 {
			width := 1 + n>>(2*at)&3
			may := len(run)+1 <= l[0].Jobs && wide+width <= l[0].Procs
			if ok := May(l, Uses(run), ask("ann", width)); ok != may {
				t.Fatalf("by %v, of %v: May of %d wide: %t", l, run, width, ok)
			}
			jobs, procs := Left(l, Uses(run), "ann")
			if jobs != l[0].Jobs-len(run) || procs != l[0].Procs-wide {
				t.Fatalf("by %v, of %v: %d, %d are left", l, run, jobs, procs)
			}
			if may {
				run, wide = append(run, going(at+1, "ann", width)), wide+width
			}
		}
	}
}

// R3: an answer is new memory, also where what was handed over has room behind it, and nothing handed over is turned.
func TestNewMemory(t *testing.T) {
	room := rows(12)
	was := slices.Clone(room)
	for from := range room {
		for to := from; to <= len(room); to++ {
			l := room[from:to]
			for n := range 13 {
				put, _ := Set(l, of(nth(n)+"a", 1, 1))
				anew, _ := Set(l, of(nth(n), 1, 1))
				less, _ := Drop(l, nth(n))
				if !slices.Equal(room, was) {
					t.Fatalf("what was handed over is turned: %v", room)
				}
				for _, then := range [][]api.Limit{put, anew, less} {
					for at := range then {
						then[at] = of("turned", 9, 9)
					}
					_ = append(then, of("turned", 9, 9))
				}
				if !slices.Equal(room, was) {
					t.Fatalf("what an answer was turned into has turned %v", room)
				}
			}
		}
	}
	jobs := []api.Job{going(1, "ann", 2), going(2, "bob", 3)}
	u := Uses(jobs)
	u[0], u[1] = used("turned", 9, 9), used("turned", 9, 9)
	if again := Uses(jobs); !slices.Equal(again, []api.Use{used("ann", 1, 2), used("bob", 1, 3)}) {
		t.Errorf("what an answer was turned into has turned %v", again)
	}
}

// Li1 to Li3 of any limits, uses and jobs: go test -run xxx -fuzz=FuzzLimits ./limit.
func FuzzLimits(f *testing.F) {
	f.Add([]byte{1, 1, 8, 2, 3, 9}, []byte{1, 1, 3}, "a", 1, 8, 2)
	f.Add([]byte{1, 100, 255, 30, 0, 250}, []byte{30, 251, 252, 30, 1, 1}, "z", allJobs, allProcs, allProcs)
	f.Add([]byte{3, 1, 1, 2, 1, 1}, []byte{0, 253, 254}, "A", math.MinInt, math.MaxInt, 0)
	f.Fuzz(func(t *testing.T, some, uses []byte, user string, jobs, procs, width int) {
		l, x := read(some), of(user, jobs, procs)
		if e, want := Check(l), meantCheck(l); e != want {
			t.Fatalf("Check(%v) = %d; meant: %d", l, e, want)
		}
		var u []api.Use
		for _, one := range read(uses) {
			u = append(u, api.Use(one))
		}
		checkSet(t, l, x)
		if then, e := Set(l, x); e == api.OK {
			l = then
		}
		for _, name := range append([]string{user}, "a", "b", "z") {
			checkDrop(t, l, name)
			checkLeft(t, l, u, name)
			checkLeft(t, l, append(u, used(name, procs, jobs)), name)
			if width >= 1 && width <= allProcs && meantName(name) {
				checkMay(t, l, u, ask(name, width))
				checkMay(t, l, append([]api.Use{used(name, jobs, procs)}, u...), ask(name, width))
			} else if May(l, u, ask(name, width)) {
				t.Fatalf("May of %d wide of %q", width, name)
			}
		}
	})
}

// read takes three bytes for a limit: most for a short name, and small numbers, some for edges.
func read(some []byte) []api.Limit {
	var l []api.Limit
	for at := 0; at+2 < len(some) && len(l) < 60; at += 3 {
		name := ""
		if n := int(some[at]); n > 0 {
			name = nth(n)
		}
		if n := int(some[at]); n > 0 && n < 27 {
			name = "abcdefghijklmnopqrstuvwxyz"[n-1 : n]
		}
		l = append(l, of(name, number(some[at+1]), number(some[at+2])))
	}
	return l
}

func number(b byte) int {
	if b >= 249 {
		return []int{-1, math.MinInt, math.MaxInt, allProcs, allProcs + 1, allProcs - 1, allJobs}[b-249]
	}
	return int(b)
}
