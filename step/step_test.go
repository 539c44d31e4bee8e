package step

import (
	"math"
	"slices"
	"testing"

	"stint/api"
)

const never = api.Never

// meantMay tells by definition whether a span may be.
func meantMay(x api.Span) bool {
	return 0 <= x.From && x.From < x.To && x.To <= never
}

// meantFree is by definition how many are free at a time: all, less the widths of those that have it.
func meantFree(p int, l []api.Busy, t int) int {
	for _, b := range l {
		if b.From <= t && t < b.To {
			p -= b.Width
		}
	}
	return p
}

// meantAt is by definition how many steps tell for a time: what the last one not behind it has.
func meantAt(s []api.Step, t int) int {
	free := 0
	for _, a := range s {
		if a.At <= t {
			free = a.Free
		}
	}
	return free
}

// meantSteps is by definition the steps from the least mark on; what is free changes at marks alone.
func meantSteps(marks []int, free func(t int) int) []api.Step {
	var s []api.Step
	for _, t := range marks {
		if n := free(t); len(s) == 0 || s[len(s)-1].Free != n {
			s = append(s, api.Step{At: t, Free: n})
		}
	}
	return s
}

// marks are t, Never, and all of these times between, rising.
func marks(t int, times ...int) []int {
	m := []int{t, never}
	for _, at := range times {
		if t < at && at < never {
			m = append(m, at)
		}
	}
	slices.Sort(m)
	return slices.Compact(m)
}

// meantOf is Of by definition.
func meantOf(p, t int, l []api.Busy) ([]api.Step, api.Errno) {
	if p < 1 || p > 256 || t < 0 || t > 1<<50 || len(l) > 300 {
		return nil, api.ErrArg
	}
	var times []int
	for _, b := range l {
		if !meantMay(api.Span{From: b.From, To: b.To}) || b.Width < 1 || b.Width > 256 {
			return nil, api.ErrArg
		}
		times = append(times, b.From, b.To)
	}
	m := marks(t, times...)
	for _, at := range m {
		if meantFree(p, l, at) < 0 {
			return nil, api.ErrOver
		}
	}
	return meantSteps(m, func(at int) int { return meantFree(p, l, at) }), api.OK
}

// stepMarks are all times at which steps, or a span, may turn something.
func stepMarks(s []api.Step, x api.Span) []int {
	times := []int{x.From, x.To}
	for _, a := range s {
		times = append(times, a.At)
	}
	return marks(s[0].At, times...)
}

// meantAdd is Add by definition, of steps that may be.
func meantAdd(s []api.Step, x api.Span, n int) []api.Step {
	if !meantMay(x) || n < -256 || n > 256 {
		return nil
	}
	free := func(t int) int {
		if x.From <= t && t < x.To {
			return meantAt(s, t) + n
		}
		return meantAt(s, t)
	}
	m := stepMarks(s, x)
	if slices.ContainsFunc(m, func(t int) bool { return free(t) < 0 || free(t) > 256 }) {
		return nil
	}
	return meantSteps(m, free)
}

// meantMin is Min by definition, of steps that may be.
func meantMin(s []api.Step, x api.Span) (int, bool) {
	if !meantMay(x) || x.From < s[0].At {
		return 0, false
	}
	least := math.MaxInt
	for _, t := range stepMarks(s, x) {
		if x.From <= t && t < x.To {
			least = min(least, meantAt(s, t))
		}
	}
	return least, true
}

// meantTrim is Trim by definition, of steps that may be.
func meantTrim(s []api.Step, t int) []api.Step {
	switch {
	case t > 1<<50:
		return nil
	case t <= s[0].At:
		return s
	}
	m := stepMarks(s, api.Span{From: t, To: never})
	return meantSteps(m[slices.Index(m, t):], func(at int) int { return meantAt(s, at) })
}

// ends are ints at which something turns: around 0, MaxTime and Never, the least and the greatest int.
func ends() []int {
	return []int{math.MinInt, -never, -1, 0, 1, 2, 3, 4, 5, api.MaxTime - 1, api.MaxTime, api.MaxTime + 1, never - 2, never - 1, never, never + 1, math.MaxInt}
}

// pairs are all spans with ends out of these, those too that may not be.
func pairs(ends []int) []api.Span {
	var l []api.Span
	for _, from := range ends {
		for _, to := range ends {
			l = append(l, api.Span{From: from, To: to})
		}
	}
	return l
}

// some are all steps, none that may not be, that begin at the first of these times and have others at some of the rest.
func some(times []int, frees []int) [][]api.Step {
	var all [][]api.Step
	for _, free := range frees {
		all = append(all, []api.Step{{At: times[0], Free: free}})
	}
	for _, at := range times[1:] {
		for _, s := range slices.Clone(all) {
			for _, free := range frees {
				if free != s[len(s)-1].Free {
					all = append(all, append(slices.Clone(s), api.Step{At: at, Free: free}))
				}
			}
		}
	}
	return all
}

// lots are steps at small times, and at the edges.
func lots() [][]api.Step {
	l := some([]int{0, 1, 3, 4}, []int{0, 1, 256})
	l = append(l, some([]int{2, 3, never - 1, never}, []int{0, 2, 255})...)
	return append(l, some([]int{api.MaxTime, api.MaxTime + 1, never}, []int{0, 1, 5, 256})...)
}

// wrong are lists that are no steps.
func wrong() [][]api.Step {
	return [][]api.Step{
		nil,
		{},
		{{At: -1, Free: 5}},
		{{At: math.MinInt, Free: 5}},
		{{At: api.MaxTime + 1, Free: 5}},
		{{At: never, Free: 5}},
		{{At: math.MaxInt, Free: 5}},
		{{At: 0, Free: -1}},
		{{At: 0, Free: 257}},
		{{At: 0, Free: math.MinInt}},
		{{At: 0, Free: math.MaxInt}},
		{{At: 0, Free: 5}, {At: 0, Free: 4}},
		{{At: 1, Free: 5}, {At: 0, Free: 4}},
		{{At: 0, Free: 5}, {At: -1, Free: 4}},
		{{At: 0, Free: 5}, {At: 1, Free: 5}},
		{{At: 0, Free: 5}, {At: 1, Free: -1}},
		{{At: 0, Free: 5}, {At: 1, Free: 257}},
		{{At: 0, Free: 5}, {At: never + 1, Free: 4}},
		{{At: 0, Free: 5}, {At: math.MaxInt, Free: 4}},
		{{At: 0, Free: 5}, {At: math.MinInt, Free: 4}},
		{{At: 0, Free: 5}, {At: 2, Free: 4}, {At: 2, Free: 3}},
		{{At: 0, Free: 5}, {At: 2, Free: 4}, {At: 1, Free: 3}},
		{{At: 0, Free: 5}, {At: 2, Free: 4}, {At: 3, Free: 4}},
		{{At: 0, Free: 5}, {At: never + 1, Free: 4}, {At: never, Free: 3}},
		{{At: 0, Free: 5}, {At: 2, Free: 257}, {At: 3, Free: 4}},
		{{At: 0, Free: 5}, {At: 2, Free: -1}, {At: 3, Free: 4}},
		{{At: -1, Free: 5}, {At: 2, Free: 4}},
		{{At: 0, Free: 257}, {At: 2, Free: 4}},
	}
}

// St1: busy times that do not meet, meet, touch, are there twice, are over at t, or go on at it; up to Never; and more than there are.
func TestOf(t *testing.T) {
	for _, c := range []struct {
		p, t int
		l    []api.Busy
		want []api.Step
		e    api.Errno
	}{
		{5, 0, nil, []api.Step{{At: 0, Free: 5}}, api.OK},
		{5, 7, []api.Busy{}, []api.Step{{At: 7, Free: 5}}, api.OK},
		{5, 0, []api.Busy{{From: 2, To: 4, Width: 3}}, []api.Step{{At: 0, Free: 5}, {At: 2, Free: 2}, {At: 4, Free: 5}}, api.OK},
		{5, 2, []api.Busy{{From: 2, To: 4, Width: 3}}, []api.Step{{At: 2, Free: 2}, {At: 4, Free: 5}}, api.OK},
		{5, 3, []api.Busy{{From: 2, To: 4, Width: 3}}, []api.Step{{At: 3, Free: 2}, {At: 4, Free: 5}}, api.OK},
		{5, 4, []api.Busy{{From: 2, To: 4, Width: 3}}, []api.Step{{At: 4, Free: 5}}, api.OK},
		{5, 5, []api.Busy{{From: 2, To: 4, Width: 3}}, []api.Step{{At: 5, Free: 5}}, api.OK},
		{5, 0, []api.Busy{{From: 4, To: 6, Width: 2}, {From: 2, To: 4, Width: 2}}, []api.Step{{At: 0, Free: 5}, {At: 2, Free: 3}, {At: 6, Free: 5}}, api.OK},
		{5, 0, []api.Busy{{From: 2, To: 6, Width: 1}, {From: 4, To: 8, Width: 4}}, []api.Step{{At: 0, Free: 5}, {At: 2, Free: 4}, {At: 4, Free: 0}, {At: 6, Free: 1}, {At: 8, Free: 5}}, api.OK},
		{5, 0, []api.Busy{{From: 2, To: 6, Width: 2}, {From: 2, To: 6, Width: 2}}, []api.Step{{At: 0, Free: 5}, {At: 2, Free: 1}, {At: 6, Free: 5}}, api.OK},
		{5, 0, []api.Busy{{From: 2, To: 6, Width: 3}, {From: 5, To: 8, Width: 3}}, nil, api.ErrOver},
		{5, 5, []api.Busy{{From: 2, To: 6, Width: 3}, {From: 5, To: 8, Width: 3}}, nil, api.ErrOver},
		{5, 6, []api.Busy{{From: 2, To: 6, Width: 3}, {From: 5, To: 8, Width: 3}}, []api.Step{{At: 6, Free: 2}, {At: 8, Free: 5}}, api.OK},
		{5, 0, []api.Busy{{From: 2, To: 6, Width: 3}, {From: 6, To: 8, Width: 3}}, []api.Step{{At: 0, Free: 5}, {At: 2, Free: 2}, {At: 8, Free: 5}}, api.OK},
		{1, 0, []api.Busy{{From: 0, To: never, Width: 1}}, []api.Step{{At: 0, Free: 0}, {At: never, Free: 1}}, api.OK},
		{1, 0, []api.Busy{{From: 0, To: never, Width: 2}}, nil, api.ErrOver},
		{1, 0, []api.Busy{{From: never - 1, To: never, Width: 2}}, nil, api.ErrOver},
		{3, api.MaxTime, []api.Busy{{From: 0, To: api.MaxTime, Width: 9}, {From: never - 1, To: never, Width: 1}}, []api.Step{{At: api.MaxTime, Free: 3}, {At: never - 1, Free: 2}, {At: never, Free: 3}}, api.OK},
		{256, 0, []api.Busy{{From: 0, To: 1, Width: 256}}, []api.Step{{At: 0, Free: 0}, {At: 1, Free: 256}}, api.OK},
	} {
		if s, e := Of(c.p, c.t, c.l); !slices.Equal(s, c.want) || e != c.e {
			t.Errorf("Of(%d, %d, %v) = %v, %d; want %v, %d", c.p, c.t, c.l, s, e, c.want, c.e)
		}
	}
}

// St1: what is not so, the first one, the last one, or among others; ErrArg also where there are too many besides.
func TestOfWrong(t *testing.T) {
	good := api.Busy{From: 0, To: 4, Width: 1}
	for _, c := range []struct{ p, t int }{
		{0, 0}, {-1, 0}, {257, 0}, {math.MinInt, 0}, {math.MaxInt, 0},
		{5, -1}, {5, api.MaxTime + 1}, {5, never}, {5, math.MinInt}, {5, math.MaxInt}, {0, -1},
	} {
		for _, l := range [][]api.Busy{nil, {good}, {{From: 0, To: never, Width: 256}}} {
			if s, e := Of(c.p, c.t, l); len(s) != 0 || e != api.ErrArg {
				t.Errorf("Of(%d, %d, %v) = %v, %d", c.p, c.t, l, s, e)
			}
		}
	}
	bad := []api.Busy{
		{}, {From: 0, To: 4}, {From: 0, To: 4, Width: -1}, {From: 0, To: 4, Width: 257}, {From: 0, To: 4, Width: math.MinInt}, {From: 0, To: 4, Width: math.MaxInt},
		{From: 4, To: 4, Width: 1}, {From: 4, To: 3, Width: 1}, {From: -1, To: 4, Width: 1}, {From: 0, To: never + 1, Width: 1}, {From: never, To: never + 1, Width: 1},
		{From: math.MinInt, To: math.MaxInt, Width: 1}, {From: math.MaxInt, To: math.MinInt, Width: 1}, {From: -4, To: -2, Width: 1},
	}
	for _, b := range bad {
		for _, l := range [][]api.Busy{{b}, {good, b}, {b, good}, {good, b, good}, {b, {From: 0, To: never, Width: 256}}} {
			for _, at := range []int{0, 10} {
				if s, e := Of(5, at, l); len(s) != 0 || e != api.ErrArg {
					t.Errorf("Of(5, %d, %v) = %v, %d", at, l, s, e)
				}
			}
		}
	}
}

// St1: 300 busy times may be, 301 may not, also where they are over, or more than there are.
func TestOfMany(t *testing.T) {
	var stairs, whole []api.Busy
	for n := range 300 {
		stairs = append(stairs, api.Busy{From: 2 * n, To: 2*n + 1, Width: 1 + n%2})
		whole = append(whole, api.Busy{From: 0, To: 9, Width: 256})
	}
	s, e := Of(2, 0, stairs)
	if want, _ := meantOf(2, 0, stairs); e != api.OK || len(s) != 600 || !slices.Equal(s, want) {
		t.Errorf("300 steps down: %d, %v", e, s)
	}
	if s, e := Of(256, 0, whole); len(s) != 0 || e != api.ErrOver {
		t.Errorf("300 that are too wide: %v, %d", s, e)
	}
	if s, e := Of(1, 9, whole); e != api.OK || !slices.Equal(s, []api.Step{{At: 9, Free: 1}}) {
		t.Errorf("300 that are over: %v, %d", s, e)
	}
	for _, l := range [][]api.Busy{stairs, whole} {
		more := append(slices.Clone(l), api.Busy{From: 0, To: 1, Width: 1})
		for _, at := range []int{0, 1000} {
			if s, e := Of(256, at, more); len(s) != 0 || e != api.ErrArg {
				t.Errorf("301 busy times from %d on: %v, %d", at, s, e)
			}
		}
	}
}

// St1: all pairs and threes of small busy times, and pairs at the edges, from several times on; in whichever order.
func TestOfByDefinition(t *testing.T) {
	var small, edges []api.Busy
	for _, x := range pairs([]int{0, 1, 2, 3}) {
		small = append(small, api.Busy{From: x.From, To: x.To, Width: 1}, api.Busy{From: x.From, To: x.To, Width: 2})
	}
	for _, x := range pairs(ends()) {
		edges = append(edges, api.Busy{From: x.From, To: x.To, Width: 2})
	}
	for _, a := range small {
		for _, b := range small {
			for at := range 4 {
				checkOf(t, 3, at, a, b)
				checkOf(t, 2, at, a, b)
				for _, c := range small {
					checkOf(t, 3, at, a, b, c)
				}
			}
		}
	}
	for _, a := range edges {
		for _, b := range edges {
			for _, at := range []int{0, 2, api.MaxTime} {
				checkOf(t, 3, at, a, b)
				checkOf(t, 4, at, a, b)
			}
		}
	}
	for _, p := range []int{math.MinInt, -1, 0, 1, 2, 255, 256, 257, math.MaxInt} {
		for _, at := range ends() {
			checkOf(t, p, at, api.Busy{From: 1, To: 4, Width: 2})
		}
	}
}

func checkOf(t *testing.T, p, at int, l ...api.Busy) {
	t.Helper()
	want, f := meantOf(p, at, l)
	s, e := Of(p, at, l)
	if e != f || !slices.Equal(s, want) {
		t.Errorf("Of(%d, %d, %v) = %v, %d; meant: %v, %d", p, at, l, s, e, want, f)
	}
	if Check(s) != (e == api.OK) {
		t.Errorf("Check of Of(%d, %d, %v) = %t", p, at, l, Check(s))
	}
}

// St1: what is no steps for one reason, and what is just so.
func TestCheck(t *testing.T) {
	for _, s := range wrong() {
		if Check(s) {
			t.Errorf("Check(%v)", s)
		}
	}
	for _, s := range [][]api.Step{
		{{At: 0, Free: 0}}, {{At: 0, Free: 256}}, {{At: api.MaxTime, Free: 1}}, {{At: 0, Free: 5}, {At: 1, Free: 4}}, {{At: 0, Free: 5}, {At: 1, Free: 4}, {At: 2, Free: 5}},
		{{At: 0, Free: 5}, {At: never, Free: 4}}, {{At: api.MaxTime, Free: 5}, {At: api.MaxTime + 1, Free: 256}, {At: never - 1, Free: 0}, {At: never, Free: 1}},
	} {
		if !Check(s) {
			t.Errorf("no Check(%v)", s)
		}
	}
	for _, s := range lots() {
		if !Check(s) {
			t.Errorf("no Check(%v)", s)
		}
	}
}

// St2: of what is no steps there is nothing, by whatever else is asked.
func TestNoSteps(t *testing.T) {
	for _, s := range wrong() {
		for _, at := range ends() {
			if n, ok := At(s, at); n != 0 || ok {
				t.Errorf("At(%v, %d) = %d, %t", s, at, n, ok)
			}
			if l := Trim(s, at); len(l) != 0 {
				t.Errorf("Trim(%v, %d) = %v", s, at, l)
			}
		}
		for _, x := range []api.Span{{}, {From: 0, To: 1}, {From: 2, To: 3}, {From: 0, To: never}, {From: never - 1, To: never}, {From: 5, To: 2}} {
			if n, ok := Min(s, x); n != 0 || ok {
				t.Errorf("Min(%v, %v) = %d, %t", s, x, n, ok)
			}
			for _, n := range []int{-1, 0, 1} {
				if l := Add(s, x, n); len(l) != 0 {
					t.Errorf("Add(%v, %v, %d) = %v", s, x, n, l)
				}
			}
		}
	}
}

// St2: ahead of the first step, at and between steps, at the last one, and from Never on.
func TestAt(t *testing.T) {
	s := []api.Step{{At: 2, Free: 5}, {At: 4, Free: 0}, {At: 9, Free: 7}}
	for _, c := range []struct {
		at, want int
		ok       bool
	}{
		{math.MinInt, 0, false}, {-1, 0, false}, {0, 0, false}, {1, 0, false}, {2, 5, true}, {3, 5, true}, {4, 0, true}, {8, 0, true}, {9, 7, true}, {10, 7, true},
		{api.MaxTime, 7, true}, {api.MaxTime + 1, 7, true}, {never - 1, 7, true}, {never, 0, false}, {never + 1, 0, false}, {math.MaxInt, 0, false},
	} {
		if n, ok := At(s, c.at); n != c.want || ok != c.ok {
			t.Errorf("At(%v, %d) = %d, %t", s, c.at, n, ok)
		}
	}
	if n, ok := At([]api.Step{{At: 0, Free: 1}, {At: never, Free: 2}}, never); n != 0 || ok {
		t.Errorf("At of Never, where there is a step: %d, %t", n, ok)
	}
}

// St2: spans that begin at a step or behind it, end at the next one or behind it, begin ahead of the first one, or may not be.
func TestMin(t *testing.T) {
	s := []api.Step{{At: 2, Free: 5}, {At: 4, Free: 3}, {At: 9, Free: 7}, {At: never, Free: 1}}
	for _, c := range []struct {
		from, to, want int
		ok             bool
	}{
		{2, 3, 5, true}, {2, 4, 5, true}, {2, 5, 3, true}, {3, 4, 5, true}, {4, 5, 3, true}, {5, 9, 3, true}, {5, 10, 3, true}, {8, 9, 3, true}, {9, 10, 7, true}, {10, 11, 7, true},
		{9, never, 7, true}, {2, never, 3, true}, {never - 1, never, 7, true}, {2, 100, 3, true},
		{1, 3, 0, false}, {1, 2, 0, false}, {0, 1, 0, false}, {-1, 3, 0, false}, {3, 3, 0, false}, {5, 3, 0, false}, {3, never + 1, 0, false}, {never, never + 1, 0, false},
		{math.MinInt, math.MaxInt, 0, false}, {3, math.MaxInt, 0, false}, {0, 0, 0, false},
	} {
		if n, ok := Min(s, api.Span{From: c.from, To: c.to}); n != c.want || ok != c.ok {
			t.Errorf("Min(%v, %d to %d) = %d, %t", s, c.from, c.to, n, ok)
		}
	}
}

// St2: more and fewer, at the ends of steps and between them, as far as the first one; joined where nothing changes any more; nothing, where it would be too many or too few.
func TestAdd(t *testing.T) {
	s := []api.Step{{At: 2, Free: 5}, {At: 4, Free: 3}, {At: 9, Free: 7}}
	for _, c := range []struct {
		from, to, n int
		want        []api.Step
	}{
		{4, 9, 2, []api.Step{{At: 2, Free: 5}, {At: 9, Free: 7}}},
		{4, 9, 4, []api.Step{{At: 2, Free: 5}, {At: 4, Free: 7}}},
		{2, 4, -2, []api.Step{{At: 2, Free: 3}, {At: 9, Free: 7}}},
		{0, 4, -2, []api.Step{{At: 2, Free: 3}, {At: 9, Free: 7}}},
		{0, 3, -5, []api.Step{{At: 2, Free: 0}, {At: 3, Free: 5}, {At: 4, Free: 3}, {At: 9, Free: 7}}},
		{3, 5, 1, []api.Step{{At: 2, Free: 5}, {At: 3, Free: 6}, {At: 4, Free: 4}, {At: 5, Free: 3}, {At: 9, Free: 7}}},
		{2, 3, -5, []api.Step{{At: 2, Free: 0}, {At: 3, Free: 5}, {At: 4, Free: 3}, {At: 9, Free: 7}}},
		{5, 6, -3, []api.Step{{At: 2, Free: 5}, {At: 4, Free: 3}, {At: 5, Free: 0}, {At: 6, Free: 3}, {At: 9, Free: 7}}},
		{20, 30, 249, []api.Step{{At: 2, Free: 5}, {At: 4, Free: 3}, {At: 9, Free: 7}, {At: 20, Free: 256}, {At: 30, Free: 7}}},
		{9, never, -7, []api.Step{{At: 2, Free: 5}, {At: 4, Free: 3}, {At: 9, Free: 0}, {At: never, Free: 7}}},
		{0, never, 1, []api.Step{{At: 2, Free: 6}, {At: 4, Free: 4}, {At: 9, Free: 8}, {At: never, Free: 7}}},
		{3, 100, 0, s}, {0, 2, 3, s}, {0, 1, 256, s}, {1, 2, -256, s}, {0, never, 0, s},
		{2, 3, -6, nil}, {3, 5, -4, nil}, {3, 10, -5, nil}, {9, 10, 250, nil}, {8, 10, 250, nil}, {0, never, -4, nil}, {9, never, -8, nil}, {2, 3, 256, nil}, {2, 3, -256, nil},
		{0, 2, 257, nil}, {0, 2, -257, nil}, {0, 2, math.MaxInt, nil}, {0, 2, math.MinInt, nil}, {2, 3, math.MaxInt, nil}, {2, 3, math.MinInt, nil},
		{3, 3, 1, nil}, {5, 3, 1, nil}, {-1, 3, 1, nil}, {3, never + 1, 1, nil}, {never, never + 1, 1, nil}, {math.MinInt, math.MaxInt, 1, nil}, {0, 0, 0, nil},
	} {
		if l := Add(s, api.Span{From: c.from, To: c.to}, c.n); !slices.Equal(l, c.want) {
			t.Errorf("Add(%v, %d to %d, %d) = %v; want %v", s, c.from, c.to, c.n, l, c.want)
		}
	}
}

// St2: from no time ahead of the first step on anything is cut off; a step stands at the time itself; above MaxTime there is nothing.
func TestTrim(t *testing.T) {
	s := []api.Step{{At: 2, Free: 5}, {At: 4, Free: 3}, {At: api.MaxTime, Free: 7}, {At: never, Free: 1}}
	for _, c := range []struct {
		at   int
		want []api.Step
	}{
		{math.MinInt, s}, {-1, s}, {0, s}, {1, s}, {2, s},
		{3, []api.Step{{At: 3, Free: 5}, {At: 4, Free: 3}, {At: api.MaxTime, Free: 7}, {At: never, Free: 1}}},
		{4, s[1:]},
		{5, []api.Step{{At: 5, Free: 3}, {At: api.MaxTime, Free: 7}, {At: never, Free: 1}}},
		{api.MaxTime - 1, []api.Step{{At: api.MaxTime - 1, Free: 3}, {At: api.MaxTime, Free: 7}, {At: never, Free: 1}}},
		{api.MaxTime, s[2:]}, {api.MaxTime + 1, nil}, {never, nil}, {never + 1, nil}, {math.MaxInt, nil},
	} {
		if l := Trim(s, c.at); !slices.Equal(l, c.want) {
			t.Errorf("Trim(%v, %d) = %v; want %v", s, c.at, l, c.want)
		}
	}
}

// St2, St3: lots of steps, at small times and at the edges, by all spans and times with ends there.
func TestStepsByDefinition(t *testing.T) {
	spans := pairs(ends())
	for _, s := range lots() {
		for _, at := range ends() {
			checkAt(t, s, at)
		}
		for _, x := range spans {
			checkMin(t, s, x)
			for _, n := range []int{math.MinInt, -257, -256, -2, -1, 0, 1, 2, 255, 256, 257, math.MaxInt} {
				checkAdd(t, s, x, n)
			}
		}
	}
}

func checkAt(t *testing.T, s []api.Step, at int) {
	t.Helper()
	want, in := 0, s[0].At <= at && at < never
	if in {
		want = meantAt(s, at)
	}
	if n, ok := At(s, at); n != want || ok != in {
		t.Errorf("At(%v, %d) = %d, %t", s, at, n, ok)
	}
	if l, want := Trim(s, at), meantTrim(s, at); !slices.Equal(l, want) {
		t.Errorf("Trim(%v, %d) = %v; meant: %v", s, at, l, want)
	}
}

func checkMin(t *testing.T, s []api.Step, x api.Span) {
	t.Helper()
	want, in := meantMin(s, x)
	if n, ok := Min(s, x); n != want || ok != in {
		t.Errorf("Min(%v, %v) = %d, %t; meant: %d, %t", s, x, n, ok, want, in)
	}
}

func checkAdd(t *testing.T, s []api.Step, x api.Span, n int) {
	t.Helper()
	l := Add(s, x, n)
	if want := meantAdd(s, x, n); !slices.Equal(l, want) {
		t.Errorf("Add(%v, %v, %d) = %v; meant: %v", s, x, n, l, want)
	}
	if len(l) == 0 {
		return
	}
	if !Check(l) {
		t.Errorf("Add(%v, %v, %d) = %v are no steps", s, x, n, l)
	}
	if back := Add(l, x, -n); !slices.Equal(back, s) {
		t.Errorf("Add(%v, %v, %d) and back = %v", s, x, n, back)
	}
}

// St3: busy times that are added to steps as fewer that are free are as if they had been among the others; what is trimmed is as if it had begun there.
func TestFollows(t *testing.T) {
	var l []api.Busy
	for _, x := range pairs([]int{0, 1, 2, 4, api.MaxTime, never - 1, never}) {
		if meantMay(x) {
			l = append(l, api.Busy{From: x.From, To: x.To, Width: 1}, api.Busy{From: x.From, To: x.To, Width: 2})
		}
	}
	for _, a := range l {
		for _, b := range l {
			for _, at := range []int{0, 1, 2, 3, api.MaxTime} {
				checkLaid(t, at, a, b)
			}
		}
	}
}

func checkLaid(t *testing.T, at int, a, b api.Busy) {
	t.Helper()
	one, e := Of(3, at, []api.Busy{a})
	both, f := Of(3, at, []api.Busy{a, b})
	if l := Add(one, api.Span{From: b.From, To: b.To}, -b.Width); e != api.OK || !slices.Equal(l, both) {
		t.Errorf("of %v from %d on, with %v laid: %v; both: %v, %d", a, at, b, l, both, f)
	}
	if f != api.OK {
		return
	}
	for _, later := range []int{at, at + 1, at + 2, api.MaxTime} {
		want, _ := Of(3, later, []api.Busy{a, b})
		if l := Trim(both, later); !slices.Equal(l, want) {
			t.Errorf("Trim(%v, %d) = %v; want %v", both, later, l, want)
		}
	}
}

// R4: the steps do not hang on the order in which busy times are told, and are the same each time.
func TestOrder(t *testing.T) {
	var l []api.Busy
	for n := range 60 {
		l = append(l, api.Busy{From: n * 37 % 50, To: 50 + n*11%40, Width: 1 + n%4})
	}
	s, e := Of(256, 3, l)
	for range 60 {
		l = append(l[1:], l[0])
		if r, f := Of(256, 3, l); f != e || !slices.Equal(r, s) {
			t.Fatalf("in another order: %v, %d; at first: %v, %d", r, f, s, e)
		}
	}
}

// R3: nothing is written to what is handed over, nor to what lies behind it; answers are new memory.
func TestNewMemory(t *testing.T) {
	whole := []api.Step{{At: 1, Free: 5}, {At: 4, Free: 3}, {At: 6, Free: 5}, {At: 8, Free: 9}, {At: 9, Free: 1}}
	kept := slices.Clone(whole)
	s := whole[:3]
	for _, l := range [][]api.Step{
		Add(s, api.Span{From: 2, To: 3}, 1), Add(s, api.Span{From: 7, To: 20}, 1), Add(s, api.Span{From: 4, To: 6}, 1), Add(s, api.Span{From: 4, To: 6}, 2), Add(s, api.Span{From: 1, To: 4}, -2),
		Add(s, api.Span{From: 0, To: 1}, 1), Add(s, api.Span{From: 2, To: 3}, 0), Add(s, api.Span{From: 2, To: 9}, -4), Trim(s, 0), Trim(s, 1), Trim(s, 3), Trim(s, 4), Trim(s, 5),
	} {
		for at := range l {
			l[at] = api.Step{At: 77, Free: 7}
		}
		_ = append(l, api.Step{At: 77, Free: 7})
		if !slices.Equal(whole, kept) {
			t.Fatalf("what was handed over has been turned into %v", whole)
		}
	}
	busy := []api.Busy{{From: 5, To: 9, Width: 1}, {From: 1, To: 3, Width: 2}, {From: 1, To: 7, Width: 2}}
	old := slices.Clone(busy)
	if Of(5, 2, busy); !slices.Equal(busy, old) {
		t.Errorf("what was handed over has been turned into %v", busy)
	}
}

// St1 to St3 of any busy times, spans and numbers: go test -run xxx -fuzz=FuzzSteps ./step.
func FuzzSteps(f *testing.F) {
	f.Add(5, 0, []byte{2, 4, 3}, byte(1), byte(3), -2)
	f.Add(9, 3, []byte{2, 240, 3, 4, 9, 2, 6, 250, 3, 239, 240, 1}, byte(5), byte(240), 2)
	f.Fuzz(func(t *testing.T, p, at int, busy []byte, from, to byte, n int) {
		l := read(busy)
		checkOf(t, p, at, l...)
		s, e := Of(p, at, l)
		if e != api.OK {
			return
		}
		x := api.Span{From: time(from), To: time(to)}
		checkAt(t, s, x.From)
		checkMin(t, s, x)
		checkAdd(t, s, x, n)
		checkAdd(t, s, x, n%8)
	})
}

// read takes three bytes for busy times: two ends, and a width.
func read(some []byte) []api.Busy {
	var l []api.Busy
	for at := 0; at+2 < len(some) && at < 90; at += 3 {
		l = append(l, api.Busy{From: time(some[at]), To: time(some[at+1]), Width: int(some[at+2]) - 1})
	}
	return l
}

// time is near 0 for most bytes, near MaxTime or Never, or beyond, for some.
func time(b byte) int {
	switch {
	case b >= 254:
		return []int{math.MinInt, math.MaxInt}[b-254]
	case b >= 230:
		return never + int(b) - 240
	case b >= 210:
		return api.MaxTime + int(b) - 220
	default:
		return int(b) - 2
	}
}
