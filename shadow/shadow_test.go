package shadow

import (
	"math"
	"slices"
	"testing"

	"stint/api"
)

const (
	greatest = 256
	latest   = api.MaxTime
	longest  = api.MaxEst
	never    = api.Never
)

// noWidths, noEsts and noStarts are numbers that are none, by whatever steps.
func noWidths() []int {
	return []int{math.MinInt, -greatest, -1, 0, greatest + 1, 1 << 32, 1<<32 + 1, math.MaxInt}
}

func noEsts() []int {
	return []int{math.MinInt, -longest, -1, 0, longest + 1, latest, never, math.MaxInt}
}

func noStarts() []int {
	return []int{math.MinInt, -latest, -2, -1, latest + 1, never - 1, never, never + 1, math.MaxInt}
}

// noSteps are steps that may not be.
func noSteps() [][]api.Step {
	return [][]api.Step{
		nil, {}, {{At: -1, Free: 4}}, {{At: latest + 1, Free: 4}}, {{At: math.MinInt, Free: 4}}, {{At: math.MaxInt, Free: 4}}, {{At: 0, Free: -1}}, {{At: 0, Free: greatest + 1}}, {{At: 0, Free: math.MaxInt}},
		{{At: 0, Free: 4}, {At: 0, Free: 5}}, {{At: 0, Free: 4}, {At: 5, Free: 4}}, {{At: 3, Free: 4}, {At: 2, Free: 5}}, {{At: 0, Free: 4}, {At: -1, Free: 5}},
		{{At: 0, Free: 4}, {At: 5, Free: 6}, {At: never + 1, Free: 4}}, {{At: 0, Free: 4}, {At: 5, Free: 6}, {At: 9, Free: -1}}, {{At: 0, Free: 4}, {At: 5, Free: 6}, {At: 9, Free: greatest + 1}}, {{At: 0, Free: 4}, {At: 5, Free: 6}, {At: 9, Free: 6}},
	}
}

// noJobs are jobs that may not be by their Width or Est, or by both.
func noJobs() []api.Job {
	l := []api.Job{{}}
	for _, width := range noWidths() {
		l = append(l, sized(width, 1), sized(width, longest), sized(width, 0))
	}
	for _, est := range noEsts() {
		l = append(l, sized(1, est), sized(greatest, est), sized(0, est))
	}
	return l
}

// sized is a job of a width and a length.
func sized(width, est int) api.Job {
	return api.Job{Width: width, Est: est}
}

// jobsOf are jobs of widths and lengths, by pairs.
func jobsOf(pairs ...[2]int) []api.Job {
	var l []api.Job
	for _, p := range pairs {
		l = append(l, sized(p[0], p[1]))
	}
	return l
}

// stepsOf are steps of times and how many are free, by pairs.
func stepsOf(pairs ...[2]int) []api.Step {
	var l []api.Step
	for _, p := range pairs {
		l = append(l, api.Step{At: p[0], Free: p[1]})
	}
	return l
}

// freeAt is by definition how many are free at a time, and whether it has a step.
func freeAt(s []api.Step, t int) (int, bool) {
	free, ok := 0, false
	for _, a := range s {
		if a.At <= t {
			free, ok = a.Free, true
		}
	}
	return free, ok
}

// turns are the times from the first step on at which steps, or one of these, may turn something, rising.
func turns(s []api.Step, times ...int) []int {
	var l []int
	for _, a := range s {
		l = append(l, a.At)
	}
	for _, t := range times {
		if t > s[0].At {
			l = append(l, t)
		}
	}
	slices.Sort(l)
	return slices.Compact(l)
}

// hasRoom is by definition whether a job has room from a time on, by steps that may be.
func hasRoom(s []api.Step, at int, j api.Job) bool {
	if at < s[0].At || at > latest || j.Width < 1 || j.Width > greatest || j.Est < 1 || j.Est > longest {
		return false
	}
	for _, t := range turns(s, at) {
		if free, _ := freeAt(s, t); at <= t && t < at+j.Est && free < j.Width {
			return false
		}
	}
	return true
}

// meantShadow is Of by definition, of steps that may be: room that is not there ahead of a time begins where something turns.
func meantShadow(s []api.Step, now int, j api.Job) (at, spare int, ok bool) {
	for _, t := range turns(s, now) {
		if t >= now && hasRoom(s, t, j) {
			free, _ := freeAt(s, t)
			return t, free - j.Width, true
		}
	}
	return 0, 0, false
}

// meantMore is by definition the steps with so many more free at the times at which a job runs, and whether they may be.
func meantMore(s []api.Step, at int, j api.Job, more int) ([]api.Step, bool) {
	var l []api.Step
	for _, t := range turns(s, at, at+j.Est) {
		free, _ := freeAt(s, t)
		if at <= t && t < at+j.Est {
			free += more
		}
		if free < 0 || free > greatest {
			return nil, false
		}
		if len(l) == 0 || l[len(l)-1].Free != free {
			l = append(l, api.Step{At: t, Free: free})
		}
	}
	return l, true
}

// meantLay is Lay by definition, of steps that may be.
func meantLay(s []api.Step, at int, j api.Job) ([]api.Step, bool) {
	if !hasRoom(s, at, j) {
		return nil, false
	}
	return meantMore(s, at, j, -j.Width)
}

// meantLift is Lift by definition, of steps that may be.
func meantLift(s []api.Step, at int, j api.Job) ([]api.Step, bool) {
	if at < 0 || at > latest || j.Width < 1 || j.Width > greatest || j.Est < 1 || j.Est > longest {
		return nil, false
	}
	return meantMore(s, at, j, j.Width)
}

// meantChain is Chain by definition, of steps that may be.
func meantChain(s []api.Step, now int, jobs []api.Job) ([]int, []api.Step) {
	var starts []int
	for _, j := range jobs {
		at, _, ok := meantShadow(s, now, j)
		if !ok {
			starts = append(starts, -1)
			continue
		}
		starts = append(starts, at)
		s, _ = meantLay(s, at, j)
	}
	return starts, s
}

// sameOf tells what is wrong with a shadow by steps that may be, and whether there is one.
func sameOf(t *testing.T, s []api.Step, now int, j api.Job) bool {
	t.Helper()
	at, spare, ok := Of(s, now, j)
	wantAt, wantSpare, want := meantShadow(s, now, j)
	if at != wantAt || spare != wantSpare || ok != want {
		t.Fatalf("Of(%v, %d, %v) = %d, %d, %t; meant: %d, %d, %t", s, now, j, at, spare, ok, wantAt, wantSpare, want)
	}
	return ok
}

// sameLaid tells what is wrong with a job that is laid, and one that is lifted, by steps that may be.
func sameLaid(t *testing.T, s []api.Step, at int, j api.Job) {
	t.Helper()
	laid, ok := Lay(s, at, j)
	if l, want := meantLay(s, at, j); ok != want || !slices.Equal(laid, l) {
		t.Fatalf("Lay(%v, %d, %v) = %v, %t; meant: %v, %t", s, at, j, laid, ok, l, want)
	}
	lifted, is := Lift(s, at, j)
	if l, want := meantLift(s, at, j); is != want || !slices.Equal(lifted, l) {
		t.Fatalf("Lift(%v, %d, %v) = %v, %t; meant: %v, %t", s, at, j, lifted, is, l, want)
	}
	if !ok {
		return
	}
	if back, is := Lift(laid, at, j); !is || !slices.Equal(back, s) {
		t.Fatalf("%v laid at %d by %v, and lifted: %v, %t", j, at, s, back, is)
	}
}

// sameChain tells what is wrong with a chain by steps that may be.
func sameChain(t *testing.T, s []api.Step, now int, jobs []api.Job) {
	t.Helper()
	starts, left := Chain(s, now, jobs)
	want, behind := meantChain(s, now, jobs)
	if !slices.Equal(starts, want) || !slices.Equal(left, behind) {
		t.Fatalf("Chain(%v, %d, %v) = %v, %v; meant: %v, %v", s, now, jobs, starts, left, want, behind)
	}
}

// some are all steps that begin at the first of these times and have others at some of the rest.
func some(times []int, frees ...int) [][]api.Step {
	var all [][]api.Step
	for _, free := range frees {
		all = append(all, []api.Step{{At: times[0], Free: free}})
	}
	for _, at := range times[1:] {
		for _, s := range slices.Clone(all) {
			for _, free := range frees {
				if free != s[len(s)-1].Free {
					all = append(all, append(slices.Clone(s), api.Step{At: at, Free: free}))
				}
			}
		}
	}
	return all
}

// small are all steps of few free at small times.
func small() [][]api.Step {
	return append(some([]int{0, 1, 3, 4}, 0, 1, 2, 3), some([]int{2, 3, 6}, 0, 2, 5)...)
}

// ends are steps at the last times, and of the most that may be free.
func ends() [][]api.Step {
	l := some([]int{0, 1, longest, latest + 1}, 0, 1, greatest)
	l = append(l, some([]int{latest - 1, latest, latest + 1, never}, 0, 1, greatest-1)...)
	return append(l, some([]int{latest, latest + longest - 1, latest + longest, never - 1}, 0, 1, greatest)...)
}

// mixed is numbers that follow a rule, each below what is asked.
func mixed(seed int) func(below int) int {
	x := uint64(seed)*2654435761 + 12345
	return func(below int) int {
		x ^= x << 13
		x ^= x >> 7
		x ^= x << 17
		return int(x >> 1 % uint64(below))
	}
}

// mixedSteps are some steps from a time on, of so many free at most.
func mixedSteps(next func(below int) int, first, many, widest int) []api.Step {
	var s []api.Step
	at := first
	for range many {
		if free := next(widest + 1); len(s) == 0 || s[len(s)-1].Free != free {
			s = append(s, api.Step{At: at, Free: free})
		}
		at += 1 + next(6)
	}
	return s
}

// mixedJobs are some jobs, of which some Ids, Users and Prios are alike.
func mixedJobs(next func(below int) int, many, widest, longest int) []api.Job {
	var l []api.Job
	for range many {
		l = append(l, api.Job{Id: 1 + next(many*2), User: "ann", Width: 1 + next(widest), Est: 1 + next(longest), Prio: next(9), Sub: next(50), State: api.JobQueued})
	}
	return l
}

// Sh1: the document's example: all are free, and the shadow is now.
func TestAllFree(t *testing.T) {
	for _, now := range []int{0, 1, 77, longest, latest - 1, latest} {
		for width := 1; width <= greatest; width++ {
			for _, est := range []int{1, 9, longest} {
				at, spare, ok := Of(stepsOf([2]int{0, greatest}), now, sized(width, est))
				if !ok || at != now || spare != greatest-width {
					t.Errorf("%d wide, %d long, at %d: %d, %d, %t", width, est, now, at, spare, ok)
				}
			}
		}
	}
}

// Sh1: a few shadows by hand: the spare is of the shadow's time alone, also where fewer, or more, are free behind it.
func TestOf(t *testing.T) {
	s := stepsOf([2]int{2, 3}, [2]int{6, 1}, [2]int{8, 4}, [2]int{12, 8}, [2]int{20, 5})
	late := stepsOf([2]int{5, 0}, [2]int{latest, 2}, [2]int{latest + 3, 7})
	for _, c := range []struct {
		s                 []api.Step
		now, width, est   int
		wantAt, wantSpare int
		want              bool
	}{
		{s, 2, 1, 4, 2, 2, true}, {s, 2, 1, 5, 2, 2, true}, {s, 2, 3, 4, 2, 0, true}, {s, 2, 3, 5, 8, 1, true}, {s, 2, 2, 5, 8, 2, true}, {s, 2, 4, 1, 8, 0, true}, {s, 2, 5, 1, 12, 3, true}, {s, 2, 8, 8, 12, 0, true}, {s, 2, 8, 9, 0, 0, false}, {s, 2, 6, 9, 0, 0, false}, {s, 2, 5, longest, 12, 3, true}, {s, 2, 9, 1, 0, 0, false},
		{s, 1, 3, 4, 2, 0, true}, {s, 0, 1, 1, 2, 2, true}, {s, -1, 1, 1, 2, 2, true}, {s, math.MinInt, 1, 1, 2, 2, true}, {s, 3, 3, 3, 3, 0, true}, {s, 3, 3, 4, 8, 1, true}, {s, 7, 1, 1, 7, 0, true}, {s, 7, 1, 30, 7, 0, true}, {s, 7, 2, 1, 8, 2, true}, {s, 9, 4, 1, 9, 0, true}, {s, 11, 4, 30, 11, 0, true}, {s, 13, 8, 7, 13, 0, true}, {s, 13, 8, 8, 0, 0, false}, {s, 19, 8, 1, 19, 0, true}, {s, 20, 8, 1, 0, 0, false}, {s, 20, 5, 9, 20, 0, true}, {s, 21, 5, longest, 21, 0, true}, {s, latest, 5, longest, latest, 0, true},
		{s, latest + 1, 1, 1, 0, 0, false}, {s, never - 1, 1, 1, 0, 0, false}, {s, never, 1, 1, 0, 0, false}, {s, math.MaxInt, 1, 1, 0, 0, false},
		{late, 5, 1, 1, latest, 1, true}, {late, 0, 2, longest, latest, 0, true}, {late, latest, 2, 3, latest, 0, true}, {late, 5, 3, 1, 0, 0, false}, {late, latest, 7, 1, 0, 0, false}, {late, latest + 1, 1, 1, 0, 0, false},
		{stepsOf([2]int{0, 0}), 0, 1, 1, 0, 0, false}, {stepsOf([2]int{latest, greatest}), 0, greatest, longest, latest, 0, true}, {stepsOf([2]int{0, greatest}, [2]int{longest, 0}), 0, greatest, longest, 0, 0, true}, {stepsOf([2]int{0, greatest}, [2]int{longest, 0}), 1, greatest, longest, 0, 0, false}, {stepsOf([2]int{0, 0}, [2]int{latest + 1, greatest}), 0, 1, 1, 0, 0, false}, {stepsOf([2]int{0, 3}, [2]int{never, 0}), latest, 3, longest, latest, 0, true},
	} {
		at, spare, ok := Of(c.s, c.now, sized(c.width, c.est))
		if at != c.wantAt || spare != c.wantSpare || ok != c.want {
			t.Errorf("Of(%v, %d, %d wide, %d long) = %d, %d, %t", c.s, c.now, c.width, c.est, at, spare, ok)
		}
	}
}

// Sh1: a few laid by hand: so many fewer are free from the time on for as long as it runs, and not longer.
func TestLay(t *testing.T) {
	s := stepsOf([2]int{2, 3}, [2]int{6, 1}, [2]int{8, 4})
	for _, c := range []struct {
		s              []api.Step
		at, width, est int
		want           []api.Step
	}{
		{s, 2, 3, 4, stepsOf([2]int{2, 0}, [2]int{6, 1}, [2]int{8, 4})}, {s, 2, 2, 4, stepsOf([2]int{2, 1}, [2]int{8, 4})}, {s, 2, 1, 5, stepsOf([2]int{2, 2}, [2]int{6, 0}, [2]int{7, 1}, [2]int{8, 4})}, {s, 3, 1, 1, stepsOf([2]int{2, 3}, [2]int{3, 2}, [2]int{4, 3}, [2]int{6, 1}, [2]int{8, 4})}, {s, 8, 3, 9, stepsOf([2]int{2, 3}, [2]int{6, 1}, [2]int{17, 4})}, {s, 9, 4, longest, stepsOf([2]int{2, 3}, [2]int{6, 1}, [2]int{8, 4}, [2]int{9, 0}, [2]int{9 + longest, 4})}, {s, latest, 4, longest, stepsOf([2]int{2, 3}, [2]int{6, 1}, [2]int{8, 4}, [2]int{latest, 0}, [2]int{latest + longest, 4})},
		{s, 2, 3, 5, nil}, {s, 2, 4, 1, nil}, {s, 5, 2, 2, nil}, {s, 5, 2, 1, stepsOf([2]int{2, 3}, [2]int{5, 1}, [2]int{8, 4})}, {s, 7, 2, 1, nil}, {s, 8, 5, 1, nil}, {s, 1, 1, 1, nil}, {s, 1, 1, 3, nil}, {s, 0, 1, 1, nil}, {s, -1, 1, 9, nil}, {s, latest + 1, 1, 1, nil}, {s, never, 1, 1, nil}, {s, math.MaxInt, 1, 1, nil}, {s, math.MinInt, 1, 1, nil},
		{stepsOf([2]int{0, greatest}), 0, greatest, 1, stepsOf([2]int{0, 0}, [2]int{1, greatest})}, {stepsOf([2]int{latest, 1}), latest, 1, 1, stepsOf([2]int{latest, 0}, [2]int{latest + 1, 1})}, {stepsOf([2]int{0, 0}), 0, 1, 1, nil},
	} {
		l, ok := Lay(c.s, c.at, sized(c.width, c.est))
		if ok != (c.want != nil) || !slices.Equal(l, c.want) {
			t.Errorf("Lay(%v, %d, %d wide, %d long) = %v, %t", c.s, c.at, c.width, c.est, l, ok)
		}
	}
}

// Sh1: a few lifted by hand: also where it was not laid, as long as no more are free than may be, and, as far as it is ahead of the first step, nothing turns.
func TestLift(t *testing.T) {
	s := stepsOf([2]int{2, 3}, [2]int{6, 1}, [2]int{8, greatest - 2})
	for _, c := range []struct {
		s              []api.Step
		at, width, est int
		want           []api.Step
	}{
		{s, 6, 2, 2, stepsOf([2]int{2, 3}, [2]int{8, greatest - 2})}, {s, 7, 1, 1, stepsOf([2]int{2, 3}, [2]int{6, 1}, [2]int{7, 2}, [2]int{8, greatest - 2})}, {s, 8, 2, 1, stepsOf([2]int{2, 3}, [2]int{6, 1}, [2]int{8, greatest}, [2]int{9, greatest - 2})}, {s, 8, 3, 1, nil}, {s, 6, 3, 2, stepsOf([2]int{2, 3}, [2]int{6, 4}, [2]int{8, greatest - 2})}, {s, 6, 3, 3, nil}, {s, 2, greatest - 3, 4, stepsOf([2]int{2, greatest}, [2]int{6, 1}, [2]int{8, greatest - 2})}, {s, 2, greatest - 2, 1, nil}, {s, 6, greatest - 1, 2, stepsOf([2]int{2, 3}, [2]int{6, greatest}, [2]int{8, greatest - 2})}, {s, 6, greatest, 2, nil},
		{s, 1, 2, 1, s}, {s, 0, 2, 2, s}, {s, 0, greatest, 1, s}, {s, 0, 2, 3, stepsOf([2]int{2, 5}, [2]int{3, 3}, [2]int{6, 1}, [2]int{8, greatest - 2})}, {s, 1, 2, 5, stepsOf([2]int{2, 5}, [2]int{6, 1}, [2]int{8, greatest - 2})}, {s, 1, greatest, 2, nil}, {s, 0, 2, longest, stepsOf([2]int{2, 5}, [2]int{6, 3}, [2]int{8, greatest}, [2]int{longest, greatest - 2})},
		{s, latest, 2, longest, stepsOf([2]int{2, 3}, [2]int{6, 1}, [2]int{8, greatest - 2}, [2]int{latest, greatest}, [2]int{latest + longest, greatest - 2})}, {s, latest + 1, 1, 1, nil}, {s, -1, 1, 1, nil}, {s, -1, 1, 2, nil}, {s, -1, 1, 9, nil}, {s, never, 1, 1, nil}, {s, math.MinInt, 1, 1, nil}, {s, math.MaxInt, 1, 1, nil},
		{stepsOf([2]int{0, 0}), 0, greatest, 1, stepsOf([2]int{0, greatest}, [2]int{1, 0})}, {stepsOf([2]int{0, greatest}), 0, 1, 1, nil}, {stepsOf([2]int{latest, greatest}), latest - longest, greatest, longest, stepsOf([2]int{latest, greatest})}, {stepsOf([2]int{latest, greatest}), latest - longest + 1, 1, longest, nil}, {stepsOf([2]int{latest, 0}, [2]int{latest + 2, 4}), latest, 4, 2, stepsOf([2]int{latest, 4})},
	} {
		l, ok := Lift(c.s, c.at, sized(c.width, c.est))
		if ok != (c.want != nil) || !slices.Equal(l, c.want) {
			t.Errorf("Lift(%v, %d, %d wide, %d long) = %v, %t", c.s, c.at, c.width, c.est, l, ok)
		}
	}
}

// Sh2: a few chains by hand: each is laid beside those ahead of it, and one that has no shadow is passed over and takes nothing.
func TestChain(t *testing.T) {
	rises := stepsOf([2]int{0, 1}, [2]int{4, 5})
	once := stepsOf([2]int{3, 4}, [2]int{9, 0})
	for _, c := range []struct {
		s      []api.Step
		now    int
		jobs   []api.Job
		starts []int
		want   []api.Step
	}{
		{rises, 0, jobsOf([2]int{3, 9}, [2]int{1, 2}, [2]int{6, 1}), []int{4, 0, -1}, stepsOf([2]int{0, 0}, [2]int{2, 1}, [2]int{4, 2}, [2]int{13, 5})},
		{rises, 0, jobsOf([2]int{6, 1}, [2]int{1, 2}, [2]int{3, 9}), []int{-1, 0, 4}, stepsOf([2]int{0, 0}, [2]int{2, 1}, [2]int{4, 2}, [2]int{13, 5})},
		{rises, 0, jobsOf([2]int{5, 3}, [2]int{5, 3}, [2]int{1, 5}, [2]int{1, 4}), []int{4, 7, 10, 0}, stepsOf([2]int{0, 0}, [2]int{10, 4}, [2]int{15, 5})},
		{rises, 2, jobsOf([2]int{1, 2}, [2]int{1, 2}, [2]int{4, 9}), []int{2, 4, 4}, stepsOf([2]int{0, 1}, [2]int{2, 0}, [2]int{6, 1}, [2]int{13, 5})},
		{rises, -9, jobsOf([2]int{1, 1}), []int{0}, stepsOf([2]int{0, 0}, [2]int{1, 1}, [2]int{4, 5})},
		{rises, latest, jobsOf([2]int{5, longest}, [2]int{1, 1}, [2]int{5, 1}), []int{latest, -1, -1}, stepsOf([2]int{0, 1}, [2]int{4, 5}, [2]int{latest, 0}, [2]int{latest + longest, 5})},
		{rises, latest - 1, jobsOf([2]int{5, 1}, [2]int{5, 9}, [2]int{1, 1}), []int{latest - 1, latest, -1}, stepsOf([2]int{0, 1}, [2]int{4, 5}, [2]int{latest - 1, 0}, [2]int{latest + 9, 5})},
		{rises, latest + 1, jobsOf([2]int{1, 1}, [2]int{2, 2}), []int{-1, -1}, rises}, {rises, math.MaxInt, jobsOf([2]int{1, 1}), []int{-1}, rises}, {rises, math.MinInt, jobsOf([2]int{1, 4}), []int{0}, stepsOf([2]int{0, 0}, [2]int{4, 5})},
		{once, 0, jobsOf([2]int{4, 3}, [2]int{3, 4}, [2]int{2, 3}, [2]int{2, 3}, [2]int{1, 1}), []int{3, -1, 6, 6, -1}, stepsOf([2]int{3, 0})},
		{once, 4, jobsOf([2]int{4, 6}, [2]int{0, 1}, [2]int{1, 0}, [2]int{1, 5}), []int{-1, -1, -1, 4}, stepsOf([2]int{3, 4}, [2]int{4, 3}, [2]int{9, 0})},
		{rises, 0, nil, nil, rises}, {once, never, []api.Job{}, nil, once}, {stepsOf([2]int{0, 0}), 0, jobsOf([2]int{1, 1}, [2]int{1, 1}), []int{-1, -1}, stepsOf([2]int{0, 0})},
	} {
		starts, left := Chain(c.s, c.now, c.jobs)
		if !slices.Equal(starts, c.starts) || !slices.Equal(left, c.want) {
			t.Errorf("Chain(%v, %d, %v) = %v, %v; want %v, %v", c.s, c.now, c.jobs, starts, left, c.starts, c.want)
		}
	}
}

// Sh1, Sh2: steps that may not be, with anything beside them.
func TestWrongSteps(t *testing.T) {
	jobs := append(noJobs(), sized(1, 1), sized(4, 2), sized(greatest, longest))
	for _, s := range noSteps() {
		for _, at := range append(noStarts(), 0, 1, 2, 3, 5, 9, latest) {
			for _, j := range jobs {
				if a, spare, ok := Of(s, at, j); a != 0 || spare != 0 || ok {
					t.Errorf("Of(%v, %d, %v) = %d, %d, %t", s, at, j, a, spare, ok)
				}
				if l, ok := Lay(s, at, j); len(l) != 0 || ok {
					t.Errorf("Lay(%v, %d, %v) = %v, %t", s, at, j, l, ok)
				}
				if l, ok := Lift(s, at, j); len(l) != 0 || ok {
					t.Errorf("Lift(%v, %d, %v) = %v, %t", s, at, j, l, ok)
				}
			}
			for _, l := range [][]api.Job{nil, jobs} {
				if starts, left := Chain(s, at, l); len(starts) != 0 || len(left) != 0 {
					t.Errorf("Chain(%v, %d, %v) = %v, %v", s, at, l, starts, left)
				}
			}
		}
	}
}

// Sh1, Sh2: jobs that may not be, and times at which nothing may start, by steps that may be.
func TestWrongJobs(t *testing.T) {
	good := []api.Job{sized(1, 1), sized(greatest, longest)}
	for _, s := range [][]api.Step{stepsOf([2]int{0, greatest}), stepsOf([2]int{0, 0}), stepsOf([2]int{3, 0}, [2]int{5, greatest}), stepsOf([2]int{latest, greatest}), stepsOf([2]int{latest, 0})} {
		for _, j := range noJobs() {
			for _, at := range append(noStarts(), 0, 1, 3, 5, latest) {
				if a, spare, ok := Of(s, at, j); a != 0 || spare != 0 || ok {
					t.Errorf("Of(%v, %d, %v) = %d, %d, %t", s, at, j, a, spare, ok)
				}
				if l, ok := Lay(s, at, j); len(l) != 0 || ok {
					t.Errorf("Lay(%v, %d, %v) = %v, %t", s, at, j, l, ok)
				}
				if l, ok := Lift(s, at, j); len(l) != 0 || ok {
					t.Errorf("Lift(%v, %d, %v) = %v, %t", s, at, j, l, ok)
				}
			}
		}
		for _, at := range noStarts() {
			for _, j := range good {
				if l, ok := Lay(s, at, j); len(l) != 0 || ok {
					t.Errorf("Lay(%v, %d, %v) = %v, %t", s, at, j, l, ok)
				}
				if l, ok := Lift(s, at, j); len(l) != 0 || ok {
					t.Errorf("Lift(%v, %d, %v) = %v, %t", s, at, j, l, ok)
				}
			}
		}
		starts, left := Chain(s, 0, noJobs())
		if !slices.Equal(starts, slices.Repeat([]int{-1}, len(noJobs()))) || !slices.Equal(left, s) {
			t.Errorf("Chain(%v, 0, %v) = %v, %v", s, noJobs(), starts, left)
		}
	}
}

// Sh1, Sh2: nothing but Width and Est of a job is looked at, and each job counts, also one whose Id another one has.
func TestOtherFields(t *testing.T) {
	s := stepsOf([2]int{0, 2}, [2]int{6, 7}, [2]int{30, 3})
	odd := []api.Job{{Id: 7, User: "bob", Width: 3, Est: 4, Prio: 1, Sub: 90, State: api.JobQueued}, {Id: 7, User: "bob", Width: 3, Est: 4, Prio: 1, Sub: 90, State: api.JobQueued}, {Id: -1, Width: 3, Est: 4, Prio: -5, Sub: -9, State: 77, Start: 40, End: 2}, {Width: 3, Est: 4, State: api.JobDone, End: never}}
	for _, j := range odd {
		at, spare, ok := Of(s, 1, j)
		laid, is := Lay(s, 7, j)
		lifted, was := Lift(s, 7, j)
		if !ok || at != 6 || spare != 4 || !is || !slices.Equal(laid, stepsOf([2]int{0, 2}, [2]int{6, 7}, [2]int{7, 4}, [2]int{11, 7}, [2]int{30, 3})) || !was || !slices.Equal(lifted, stepsOf([2]int{0, 2}, [2]int{6, 7}, [2]int{7, 10}, [2]int{11, 7}, [2]int{30, 3})) {
			t.Errorf("%v: %d, %d, %t, %v, %t, %v, %t", j, at, spare, ok, laid, is, lifted, was)
		}
	}
	starts, left := Chain(s, 1, odd)
	if !slices.Equal(starts, []int{6, 6, 10, 10}) || !slices.Equal(left, stepsOf([2]int{0, 2}, [2]int{6, 1}, [2]int{14, 7}, [2]int{30, 3})) {
		t.Errorf("Chain: %v, %v", starts, left)
	}
}

// Sh1, Sh3: all small steps, and times and jobs around them, by definition; of a shadow also, time by time, that there is no room ahead of it; what is laid and lifted turned nothing.
func TestSmallByDefinition(t *testing.T) {
	for _, s := range small() {
		for now := -1; now <= 8; now++ {
			for width := range 5 {
				for est := range 6 {
					j := sized(width, est)
					sameLaid(t, s, now, j)
					until := 20
					if sameOf(t, s, now, j) {
						until, _, _ = Of(s, now, j)
					}
					for at := max(now, 0); at < until; at++ {
						if hasRoom(s, at, j) {
							t.Fatalf("%v by %v from %d on: room at %d, ahead of %d", j, s, now, at, until)
						}
					}
				}
			}
		}
	}
}

// Sh1, Sh3: steps at the last times, and of the most that may be free, with times and jobs at edges, by definition.
func TestEndsByDefinition(t *testing.T) {
	times := append(noStarts(), 0, 1, 2, longest-1, longest, latest-longest, latest-2, latest-1, latest)
	for _, s := range ends() {
		for _, at := range times {
			for _, width := range []int{1, 2, greatest - 1, greatest} {
				for _, est := range []int{1, 2, 3, longest - 1, longest} {
					j := sized(width, est)
					sameOf(t, s, at, j)
					sameLaid(t, s, at, j)
				}
			}
		}
	}
}

// Sh2, Sh3: all lists of three small jobs by small steps, by definition.
func TestChainsByDefinition(t *testing.T) {
	var kinds []api.Job
	for _, width := range []int{1, 2, 3} {
		kinds = append(kinds, sized(width, 1), sized(width, 3))
	}
	kinds = append(kinds, sized(0, 1))
	for _, s := range small() {
		for now := -1; now <= 5; now += 2 {
			for _, a := range kinds {
				for _, b := range kinds {
					for _, c := range kinds {
						sameChain(t, s, now, []api.Job{a, b, c})
					}
				}
			}
		}
	}
}

// Sh1 to Sh3: longer lists by longer steps, also at the last times, by definition.
func TestMixedByDefinition(t *testing.T) {
	for seed := range 600 {
		next := mixed(seed)
		widest := []int{4, 20, greatest}[next(3)]
		first := []int{0, 7, latest - 9, latest}[next(4)]
		s := mixedSteps(next, first, 1+next(9), widest)
		jobs := mixedJobs(next, 1+next(40), 1+next(widest), 1+next(25))
		for _, j := range jobs {
			now := first - 3 + next(30)
			sameOf(t, s, now, j)
			sameLaid(t, s, now, j)
		}
		sameChain(t, s, first-3+next(30), jobs)
	}
}

// spots is time by time how many are free, from 0 on, by steps that begin at 0.
func spots(s []api.Step, many int) []int {
	var l []int
	for t := range many {
		free, _ := freeAt(s, t)
		l = append(l, free)
	}
	return l
}

// firstSpot is the first time from now on from which on there is room, looked for time by time.
func firstSpot(free []int, now int, j api.Job) int {
	for at := now; at+j.Est <= len(free); at++ {
		if slices.Min(free[at:at+j.Est]) >= j.Width {
			return at
		}
	}
	return -1
}

// Sh2, Sh3: chains against a table of times, one by one: each job takes what is there, has no room earlier among those ahead of it, and what is left is what the steps tell.
func TestChainTimeByTime(t *testing.T) {
	const many = 1200
	late := 0
	for seed := range 200 {
		next := mixed(seed)
		widest := 2 + next(12)
		s := append(mixedSteps(next, 0, 1+next(8), widest), api.Step{At: 60, Free: widest + 1})
		jobs := mixedJobs(next, 40, widest+1, 15)
		now := next(20)
		free := spots(s, many)
		starts, left := Chain(s, now, jobs)
		if len(starts) != len(jobs) {
			t.Fatalf("Chain(%v, %d, %v): %v", s, now, jobs, starts)
		}
		for n, j := range jobs {
			at := firstSpot(free, now, j)
			if starts[n] != at {
				t.Fatalf("Chain(%v, %d, %v): %v; job %d at %d", s, now, jobs, starts, n, at)
			}
			for k := at; k < at+j.Est; k++ {
				free[k] -= j.Width
			}
			if n > 0 && at < starts[n-1] {
				late++
			}
		}
		if !slices.Equal(spots(left, many), free) {
			t.Fatalf("Chain(%v, %d, %v): left %v", s, now, jobs, left)
		}
	}
	if late < 100 {
		t.Errorf("%d jobs started ahead of the one they stand behind", late)
	}
}

// Sh2: a chain has no bound on how many jobs there are.
func TestLongChain(t *testing.T) {
	jobs := slices.Repeat([]api.Job{sized(2, 3)}, 1000)
	starts, left := Chain(stepsOf([2]int{0, 5}), 4, jobs)
	var want []int
	for n := range jobs {
		want = append(want, 4+n/2*3)
	}
	if !slices.Equal(starts, want) || !slices.Equal(left, stepsOf([2]int{0, 5}, [2]int{4, 1}, [2]int{4 + 1500, 5})) {
		t.Errorf("%v, %v", starts, left)
	}
}

// R3: nothing is written to what is handed in, and answers are new memory, also where nothing is laid or turned.
func TestNewMemory(t *testing.T) {
	s := stepsOf([2]int{4, 3}, [2]int{9, 8}, [2]int{12, 1})
	jobs := jobsOf([2]int{1, 20}, [2]int{2, 5}, [2]int{3, 3}, [2]int{9, 9})
	wasS, wasJobs := slices.Clone(s), slices.Clone(jobs)
	Of(s[:2], 5, jobs[0])
	laid, _ := Lay(s[:2], 4, jobs[2])
	lifted, _ := Lift(s[:2], 5, jobs[1])
	ahead, _ := Lift(s[:2], 0, sized(1, 1))
	starts, left := Chain(s[:2], 0, jobs[:3])
	_, none := Chain(s[:2], 0, jobs[3:])
	_, empty := Chain(s[:2], 0, nil)
	if !slices.Equal(s, wasS) || !slices.Equal(jobs, wasJobs) {
		t.Fatalf("turned: %v, %v", s, jobs)
	}
	for n, l := range [][]api.Step{laid, lifted, ahead, left, none, empty} {
		if len(l) == 0 {
			t.Fatalf("nothing from call %d", n)
		}
		l[0].Free = 50
		_ = append(l, api.Step{At: 51})
		if !slices.Equal(s, wasS) {
			t.Fatalf("the answer of call %d is shared: %v", n, s)
		}
	}
	starts[0] = 50
	if again, _ := Chain(s[:2], 0, jobs[:3]); !slices.Equal(again, []int{4, 4, 9}) || !slices.Equal(jobs, wasJobs) {
		t.Errorf("an answer has turned: %v, %v", again, jobs)
	}
}

// Sh1 to Sh3 of any steps, times and jobs: go test -run xxx -fuzz=FuzzShadows ./shadow.
func FuzzShadows(f *testing.F) {
	f.Add([]byte{3, 9, 8}, []byte{2, 19, 1, 4}, 0, 0, 3, 20)
	f.Add([]byte{255, 1, 254, 2, 255}, []byte{255, 255, 0, 0, 128, 3}, latest-3, latest, greatest, longest)
	f.Add([]byte{4}, []byte{1, 1}, 0, -5, math.MinInt, math.MaxInt)
	f.Fuzz(func(t *testing.T, turns, some []byte, first, at, width, est int) {
		// What is free, and behind it how long it stays so, in turn.
		var s []api.Step
		from := first
		for n, b := range turns {
			if n%2 == 1 {
				from += 1 + int(b)
			} else if len(s) == 0 || s[len(s)-1].Free != int(b) {
				s = append(s, api.Step{At: from, Free: int(b)})
			}
		}
		var jobs []api.Job
		for n := 1; n < len(some); n += 2 {
			jobs = append(jobs, sized(int(some[n-1]), int(int8(some[n]))))
		}
		j := sized(width, est)
		jobs = append(jobs, j)
		if len(s) > 0 && 0 <= first && first <= latest && len(s) < 100 {
			sameOf(t, s, at, j)
			sameLaid(t, s, at, j)
			sameChain(t, s, at, jobs)
			return
		}
		if len(s) > 0 && 0 <= first && first <= latest {
			return
		}
		if a, spare, ok := Of(s, at, j); a != 0 || spare != 0 || ok {
			t.Errorf("Of(%v, %d, %v) = %d, %d, %t", s, at, j, a, spare, ok)
		}
		laid, ok := Lay(s, at, j)
		lifted, is := Lift(s, at, j)
		if len(laid) != 0 || ok || len(lifted) != 0 || is {
			t.Errorf("Lay, Lift(%v, %d, %v) = %v, %t, %v, %t", s, at, j, laid, ok, lifted, is)
		}
		if starts, left := Chain(s, at, jobs); len(starts) != 0 || len(left) != 0 {
			t.Errorf("Chain(%v, %d, %v) = %v, %v", s, at, jobs, starts, left)
		}
	})
}
