package gaps

import (
	"math"
	"slices"
	"testing"

	"stint/api"
)

const (
	latest  = api.MaxTime
	longest = api.MaxEst
	never   = api.Never
)

// row is by definition what is free at each time: the first number at the time first, the next ones at the times behind it, the last one on and on up to Never.
type row struct {
	first int
	free  []int
}

// at is how many are free at a time, and whether there is such a time.
func (r row) at(t int) (int, bool) {
	if t < r.first || t >= never {
		return 0, false
	}
	return r.free[min(t-r.first, len(r.free)-1)], true
}

// steps is the row as layer 4 tells it.
func (r row) steps() []api.Step {
	var s []api.Step
	for n, free := range r.free {
		if n == 0 || free != r.free[n-1] {
			s = append(s, api.Step{At: r.first + n, Free: free})
		}
	}
	return s
}

// ok is Ok by definition, of a width and a length that may be: it asks for each of the times.
func (r row) ok(at, width, length int) bool {
	for t := at; t < at+length; t++ {
		if free, is := r.at(t); !is || free < width {
			return false
		}
	}
	return at <= latest
}

// fit is Fit by definition: it asks for each time up to last, behind which no time has room, if last has none.
func (r row) fit(from, width, length, last int) (int, bool) {
	for t := max(from, r.first); t <= last; t++ {
		if r.ok(t, width, length) {
			return t, true
		}
	}
	return 0, false
}

// widest is Widest by definition.
func (r row) widest(at, length int) int {
	least := math.MaxInt
	for t := at; t < at+length; t++ {
		free, is := r.at(t)
		if !is {
			return 0
		}
		least = min(least, free)
	}
	return least
}

// longest is Longest by definition; last is a time behind which nothing turns.
func (r row) longest(at, width, last int) int {
	for t := at; ; t++ {
		if free, is := r.at(t); !is || free < width {
			return t - at
		}
		if t > last {
			return never - at
		}
	}
}

// all is All by definition: spans whose times have as many free, and which have no such time beside them.
func (r row) all(width, last int) []api.Span {
	var l []api.Span
	for t := r.first; t <= last; t++ {
		if ahead, is := r.at(t - 1); is && ahead >= width {
			continue
		}
		if n := r.longest(t, width, last); n > 0 {
			l = append(l, api.Span{From: t, To: t + n})
		}
	}
	return l
}

// rows are all rows of so many times, of these numbers.
func rows(first, times int, frees ...int) []row {
	all := []row{{first: first}}
	for range times {
		var more []row
		for _, r := range all {
			for _, free := range frees {
				more = append(more, row{first, append(slices.Clone(r.free), free)})
			}
		}
		all = more
	}
	return all
}

// ends are ints at which something turns: around 0, MaxTime and Never, the least and the greatest int.
func ends() []int {
	return []int{math.MinInt, -never, -longest, -1, 0, 1, 3, latest - longest, latest - 1, latest, latest + 1, latest + longest, never - longest, never - 1, never, never + 1, math.MaxInt}
}

// noWidths and noLengths are those that may not be.
func noWidths() []int { return []int{math.MinInt, -256, -1, 0, 257, 512, math.MaxInt} }
func noLengths() []int {
	return []int{math.MinInt, -longest, -1, 0, longest + 1, latest, never, math.MaxInt}
}

// example is the document's: 5 free, 2 from 2 to 4.
func example() []api.Step {
	return []api.Step{{At: 0, Free: 5}, {At: 2, Free: 2}, {At: 4, Free: 5}}
}

// stairs rise from 3 on, are full up to 9 and fall to 0 at 12, for good.
func stairs() []api.Step {
	return []api.Step{{At: 3, Free: 1}, {At: 5, Free: 3}, {At: 7, Free: 256}, {At: 9, Free: 2}, {At: 12, Free: 0}}
}

// late is full up to a time around MaxTime, and empty from there on.
func late(at int) []api.Step {
	return []api.Step{{At: 0, Free: 0}, {At: at, Free: 256}}
}

// Ga1: ahead of the first step, within a room, where it is just as long, over steps that touch, at MaxTime at most, and none at all.
func TestFit(t *testing.T) {
	ending := []api.Step{{At: 0, Free: 4}, {At: never, Free: 5}}
	for _, c := range []struct {
		s                         []api.Step
		from, width, length, want int
		ok                        bool
	}{
		{example(), 0, 3, 3, 4, true}, {example(), 0, 3, 2, 0, true}, {example(), 1, 3, 1, 1, true}, {example(), 1, 3, 2, 4, true}, {example(), 2, 2, 9, 2, true},
		{example(), 3, 3, 1, 4, true}, {example(), 4, 5, 9, 4, true}, {example(), 7, 5, longest, 7, true}, {example(), 0, 5, longest, 4, true}, {example(), 0, 2, longest, 0, true},
		{example(), -1, 3, 2, 0, true}, {example(), math.MinInt, 3, 2, 0, true}, {example(), math.MinInt, 3, 3, 4, true}, {example(), 0, 6, 1, 0, false}, {example(), 0, 256, 1, 0, false},
		{example(), latest, 5, longest, latest, true}, {example(), latest + 1, 1, 1, 0, false}, {example(), never - 1, 1, 1, 0, false}, {example(), never, 1, 1, 0, false}, {example(), math.MaxInt, 1, 1, 0, false},
		{stairs(), 0, 1, 9, 3, true}, {stairs(), 0, 1, 10, 0, false}, {stairs(), 4, 1, 8, 4, true}, {stairs(), 4, 1, 9, 0, false}, {stairs(), 0, 2, 7, 5, true}, {stairs(), 0, 3, 4, 5, true},
		{stairs(), 0, 3, 5, 0, false}, {stairs(), 6, 3, 3, 6, true}, {stairs(), 6, 256, 2, 7, true}, {stairs(), 8, 256, 1, 8, true}, {stairs(), 8, 256, 2, 0, false}, {stairs(), 12, 1, 1, 0, false},
		{late(latest - 1), 0, 256, longest, latest - 1, true}, {late(latest), 0, 1, 1, latest, true}, {late(latest), latest, 256, longest, latest, true}, {late(latest + 1), 0, 1, 1, 0, false}, {late(never), 0, 1, 1, 0, false},
		{ending, latest, 4, longest, latest, true}, {ending, 0, 5, 1, 0, false}, {[]api.Step{{At: latest, Free: 1}}, 0, 1, longest, latest, true}, {[]api.Step{{At: 0, Free: 0}}, 0, 1, 1, 0, false},
	} {
		if n, ok := Fit(c.s, c.from, c.width, c.length); n != c.want || ok != c.ok {
			t.Errorf("Fit(%v, %d, %d, %d) = %d, %t; want %d, %t", c.s, c.from, c.width, c.length, n, ok, c.want, c.ok)
		}
	}
}

// Ga1: the times are those from at on, the one behind them is none of them; from the first step on, to MaxTime.
func TestOk(t *testing.T) {
	for _, c := range []struct {
		s                 []api.Step
		at, width, length int
		want              bool
	}{
		{example(), 0, 3, 2, true}, {example(), 0, 3, 3, false}, {example(), 1, 3, 2, false}, {example(), 1, 2, 9, true}, {example(), 3, 3, 1, false}, {example(), 4, 5, longest, true}, {example(), 4, 6, 1, false},
		{example(), -1, 1, 1, false}, {example(), -5, 1, 9, false}, {example(), math.MinInt, 1, 1, false}, {example(), latest, 5, longest, true}, {example(), latest + 1, 1, 1, false}, {example(), never, 1, 1, false}, {example(), math.MaxInt, 1, 1, false},
		{stairs(), 3, 1, 9, true}, {stairs(), 3, 1, 10, false}, {stairs(), 2, 1, 1, false}, {stairs(), 2, 1, 9, false}, {stairs(), 7, 256, 2, true}, {stairs(), 7, 256, 3, false}, {stairs(), 12, 1, 1, false},
		{late(latest), latest, 256, longest, true}, {late(latest), latest - 1, 1, 1, false}, {late(latest + 1), latest, 1, 9, false}, {late(latest + 1), latest + 1, 1, 1, false},
		{[]api.Step{{At: 0, Free: 4}, {At: latest + longest, Free: 0}}, latest, 4, longest, true}, {[]api.Step{{At: 0, Free: 4}, {At: latest + longest - 1, Free: 0}}, latest, 4, longest, false},
	} {
		if ok := Ok(c.s, c.at, c.width, c.length); ok != c.want {
			t.Errorf("Ok(%v, %d, %d, %d) = %t", c.s, c.at, c.width, c.length, ok)
		}
	}
}

// Ga2: steps that touch are one span; up to Never, also above MaxTime; a step at Never has no times.
func TestAll(t *testing.T) {
	for _, c := range []struct {
		s     []api.Step
		width int
		want  []api.Span
	}{
		{example(), 1, []api.Span{{From: 0, To: never}}}, {example(), 2, []api.Span{{From: 0, To: never}}}, {example(), 3, []api.Span{{From: 0, To: 2}, {From: 4, To: never}}}, {example(), 5, []api.Span{{From: 0, To: 2}, {From: 4, To: never}}}, {example(), 6, nil},
		{stairs(), 1, []api.Span{{From: 3, To: 12}}}, {stairs(), 2, []api.Span{{From: 5, To: 12}}}, {stairs(), 3, []api.Span{{From: 5, To: 9}}}, {stairs(), 4, []api.Span{{From: 7, To: 9}}}, {stairs(), 256, []api.Span{{From: 7, To: 9}}},
		{late(latest + 1), 256, []api.Span{{From: latest + 1, To: never}}}, {late(never - 1), 1, []api.Span{{From: never - 1, To: never}}}, {late(never), 1, nil}, {[]api.Step{{At: 0, Free: 4}, {At: never, Free: 5}}, 4, []api.Span{{From: 0, To: never}}},
		{[]api.Step{{At: latest, Free: 1}}, 1, []api.Span{{From: latest, To: never}}}, {[]api.Step{{At: 0, Free: 0}}, 1, nil},
	} {
		if l := All(c.s, c.width); !slices.Equal(l, c.want) {
			t.Errorf("All(%v, %d) = %v; want %v", c.s, c.width, l, c.want)
		}
	}
}

// Ga2: the least of all the times, the one behind them is none of them; 0 ahead of the first step, and above MaxTime.
func TestWidest(t *testing.T) {
	for _, c := range []struct {
		s                []api.Step
		at, length, want int
	}{
		{example(), 0, 1, 5}, {example(), 0, 2, 5}, {example(), 0, 3, 2}, {example(), 1, 5, 2}, {example(), 3, 1, 2}, {example(), 4, longest, 5}, {example(), 0, longest, 2},
		{example(), -1, 1, 0}, {example(), -5, 9, 0}, {example(), math.MinInt, 1, 0}, {example(), latest, longest, 5}, {example(), latest + 1, 1, 0}, {example(), never, 1, 0}, {example(), math.MaxInt, 1, 0}, {example(), math.MaxInt, longest, 0},
		{stairs(), 3, 1, 1}, {stairs(), 5, 4, 3}, {stairs(), 5, 7, 2}, {stairs(), 7, 2, 256}, {stairs(), 7, 3, 2}, {stairs(), 7, 6, 0}, {stairs(), 2, 1, 0}, {stairs(), 2, 9, 0}, {stairs(), 12, 1, 0},
		{[]api.Step{{At: 0, Free: 4}, {At: latest + longest, Free: 1}}, latest, longest, 4}, {[]api.Step{{At: 0, Free: 4}, {At: latest + longest - 1, Free: 1}}, latest, longest, 1}, {late(latest), latest, longest, 256},
	} {
		if n := Widest(c.s, c.at, c.length); n != c.want {
			t.Errorf("Widest(%v, %d, %d) = %d; want %d", c.s, c.at, c.length, n, c.want)
		}
	}
}

// Ga2: up to the first time at which less are free, over steps that touch; up to Never, and also from above MaxTime on.
func TestLongest(t *testing.T) {
	for _, c := range []struct {
		s               []api.Step
		at, width, want int
	}{
		{example(), 0, 3, 2}, {example(), 1, 3, 1}, {example(), 2, 3, 0}, {example(), 3, 3, 0}, {example(), 4, 3, never - 4}, {example(), 9, 5, never - 9}, {example(), 1, 2, never - 1}, {example(), 1, 6, 0},
		{example(), -1, 1, 0}, {example(), math.MinInt, 1, 0}, {example(), latest, 5, never - latest}, {example(), latest + 1, 5, never - latest - 1}, {example(), never - 1, 5, 1}, {example(), never, 5, 0}, {example(), never + 1, 5, 0}, {example(), math.MaxInt, 5, 0},
		{stairs(), 3, 1, 9}, {stairs(), 4, 1, 8}, {stairs(), 6, 2, 6}, {stairs(), 6, 3, 3}, {stairs(), 7, 256, 2}, {stairs(), 9, 256, 0}, {stairs(), 11, 1, 1}, {stairs(), 12, 1, 0}, {stairs(), 2, 1, 0},
		{late(never - 1), never - 1, 256, 1}, {late(never), never, 256, 0}, {late(latest), latest - 1, 1, 0},
	} {
		if n := Longest(c.s, c.at, c.width); n != c.want {
			t.Errorf("Longest(%v, %d, %d) = %d; want %d", c.s, c.at, c.width, n, c.want)
		}
	}
}

// wantNothing holds that there is nothing of what may not be, whatever else is asked.
func wantNothing(t *testing.T, s []api.Step, at, width, length int) {
	t.Helper()
	if n, ok := Fit(s, at, width, length); n != 0 || ok {
		t.Errorf("Fit(%v, %d, %d, %d) = %d, %t", s, at, width, length, n, ok)
	}
	if Ok(s, at, width, length) {
		t.Errorf("Ok(%v, %d, %d, %d)", s, at, width, length)
	}
}

// Ga1, Ga2: widths and lengths that may not be, where all are free, and where none is.
func TestWrongNumbers(t *testing.T) {
	for _, s := range [][]api.Step{example(), stairs(), late(latest), {{At: 0, Free: 0}}, {{At: 0, Free: 256}}} {
		for _, at := range ends() {
			for _, width := range noWidths() {
				for _, length := range append(noLengths(), 1, 2, longest) {
					wantNothing(t, s, at, width, length)
				}
				if l, n := All(s, width), Longest(s, at, width); len(l) != 0 || n != 0 {
					t.Errorf("All, Longest(%v, %d, %d) = %v, %d", s, at, width, l, n)
				}
			}
			for _, length := range noLengths() {
				wantNothing(t, s, at, 1, length)
				wantNothing(t, s, at, 256, length)
				if n := Widest(s, at, length); n != 0 {
					t.Errorf("Widest(%v, %d, %d) = %d", s, at, length, n)
				}
			}
		}
	}
}

// Ga1, Ga2: lists that are no steps, also where what is wrong stands behind all that is asked for.
func TestWrongSteps(t *testing.T) {
	for _, s := range [][]api.Step{
		nil, {},
		{{At: -1, Free: 5}}, {{At: math.MinInt, Free: 5}}, {{At: latest + 1, Free: 5}}, {{At: never, Free: 5}}, {{At: math.MaxInt, Free: 5}},
		{{At: 0, Free: -1}}, {{At: 0, Free: 257}}, {{At: 0, Free: math.MaxInt}}, {{At: 0, Free: math.MinInt}},
		{{At: 0, Free: 5}, {At: 0, Free: 4}}, {{At: 0, Free: 5}, {At: 1, Free: 5}}, {{At: 1, Free: 5}, {At: 0, Free: 4}}, {{At: 0, Free: 5}, {At: -1, Free: 4}},
		{{At: 0, Free: 5}, {At: 9, Free: 257}}, {{At: 0, Free: 5}, {At: 9, Free: -1}}, {{At: 0, Free: 5}, {At: never + 1, Free: 4}}, {{At: 0, Free: 5}, {At: math.MaxInt, Free: 4}},
		{{At: 0, Free: 5}, {At: 9, Free: 4}, {At: 9, Free: 5}}, {{At: 0, Free: 5}, {At: 9, Free: 4}, {At: 8, Free: 5}}, {{At: 0, Free: 5}, {At: 9, Free: 4}, {At: 10, Free: 4}},
	} {
		for _, at := range ends() {
			for _, width := range []int{1, 4, 5, 256, 257, 0} {
				for _, length := range []int{1, 3, longest, 0} {
					wantNothing(t, s, at, width, length)
					if n := Widest(s, at, length); n != 0 {
						t.Errorf("Widest(%v, %d, %d) = %d", s, at, length, n)
					}
				}
				if l, n := All(s, width), Longest(s, at, width); len(l) != 0 || n != 0 {
					t.Errorf("All, Longest(%v, %d, %d) = %v, %d", s, at, width, l, n)
				}
			}
		}
	}
}

// check holds all that is told of a row against its definition.
func check(t *testing.T, r row, at, width, length int) {
	t.Helper()
	s, last := r.steps(), r.first+len(r.free)
	// Behind the last turn all times are alike, but for what is above MaxTime.
	n, ok := Fit(s, at, width, length)
	want, is := r.fit(at, width, length, min(latest, max(last, at)))
	if n != want || ok != is {
		t.Fatalf("Fit(%v, %d, %d, %d) = %d, %t; meant: %d, %t", s, at, width, length, n, ok, want, is)
	}
	if ok, is := Ok(s, at, width, length), r.ok(at, width, length); ok != is {
		t.Fatalf("Ok(%v, %d, %d, %d) = %t", s, at, width, length, ok)
	}
	least := 0
	if at <= latest {
		least = r.widest(at, length)
	}
	if n := Widest(s, at, length); n != least {
		t.Fatalf("Widest(%v, %d, %d) = %d; meant: %d", s, at, length, n, least)
	}
	if n, want := Longest(s, at, width), r.longest(at, width, max(last, at)); n != want {
		t.Fatalf("Longest(%v, %d, %d) = %d; meant: %d", s, at, width, n, want)
	}
	if l, want := All(s, width), r.all(width, last); !slices.Equal(l, want) {
		t.Fatalf("All(%v, %d) = %v; meant: %v", s, width, l, want)
	}
}

// Ga1, Ga2: all rows of six times, of none, one, or two free.
func TestByDefinition(t *testing.T) {
	for _, first := range []int{0, 3} {
		for _, r := range rows(first, 6, 0, 1, 2) {
			for at := -2; at < first+9; at++ {
				for width := 1; width <= 3; width++ {
					for length := 1; length <= 8; length++ {
						check(t, r, at, width, length)
					}
				}
			}
		}
	}
}

// Ga1, Ga2: rows that begin at MaxTime, of as many free as there may be, and all widths there.
func TestLateRowsByDefinition(t *testing.T) {
	for _, first := range []int{latest - 4, latest - 1, latest} {
		for _, r := range rows(first, 4, 0, 255, 256) {
			for at := first - 2; at < first+7; at++ {
				for _, width := range []int{1, 2, 254, 255, 256} {
					for length := 1; length <= 6; length++ {
						check(t, r, at, width, length)
					}
				}
			}
		}
	}
}

// checkFirst holds that there is room from Fit on, and from no earlier time at which something turns, or is about to.
func checkFirst(t *testing.T, s []api.Step, from, width, length int) {
	t.Helper()
	at, ok := Fit(s, from, width, length)
	if ok && (!Ok(s, at, width, length) || at < from || Widest(s, at, length) < width || Longest(s, at, width) < length) {
		t.Fatalf("Fit(%v, %d, %d, %d) = %d", s, from, width, length, at)
	}
	if !ok {
		at = never
	}
	times := []int{from, s[0].At, latest, at - 1}
	for _, a := range s {
		times = append(times, a.At-length, a.At-1, a.At, a.At+1)
	}
	for _, early := range times {
		if early >= from && early < at && Ok(s, early, width, length) {
			t.Fatalf("Fit(%v, %d, %d, %d) = %d, %t; there is room at %d", s, from, width, length, at, ok, early)
		}
	}
}

// Ga3: all pairs of turns around 0, MaxTime and Never, and all times there; Fit, Ok, Widest, Longest and All tell the same.
func TestFirstRoom(t *testing.T) {
	for _, one := range ends() {
		for _, two := range ends() {
			if one < 1 || two <= one || two > never {
				continue
			}
			for _, frees := range rows(0, 3, 0, 2, 5) {
				if frees.free[0] == frees.free[1] || frees.free[1] == frees.free[2] {
					continue
				}
				s := []api.Step{{At: 0, Free: frees.free[0]}, {At: one, Free: frees.free[1]}, {At: two, Free: frees.free[2]}}
				for _, from := range ends() {
					for _, width := range []int{1, 2, 3, 5, 6} {
						for _, length := range []int{1, 2, longest - 1, longest} {
							checkFirst(t, s, from, width, length)
							checkTold(t, s, from, width, length)
						}
					}
				}
			}
		}
	}
}

// checkTold holds that what Ok, Widest, Longest and All tell of a time agrees.
func checkTold(t *testing.T, s []api.Step, at, width, length int) {
	t.Helper()
	in := 0
	for _, x := range All(s, width) {
		if x.From <= at && at < x.To {
			in = x.To - at
		}
	}
	if n := Longest(s, at, width); n != in {
		t.Fatalf("Longest(%v, %d, %d) = %d; All: %d", s, at, width, n, in)
	}
	ok := Ok(s, at, width, length)
	if at <= latest && ok != (in >= length) || at > latest && ok {
		t.Fatalf("Ok(%v, %d, %d, %d) = %t; Longest: %d", s, at, width, length, ok, in)
	}
	if n := Widest(s, at, length); ok != (n >= width) {
		t.Fatalf("Widest(%v, %d, %d) = %d; Ok of %d: %t", s, at, length, n, width, ok)
	}
}

// R3: no call writes to the steps, and what All answers is new memory.
func TestNewMemory(t *testing.T) {
	s := stairs()
	for range 2 {
		l := All(s, 2)
		if !slices.Equal(l, []api.Span{{From: 5, To: 12}}) {
			t.Errorf("All: %v", l)
		}
		l = append(l[:0], api.Span{From: 77, To: 78})
		Fit(s, 4, 3, 2)
		Ok(s, 4, 3, 2)
		Widest(s, 4, 2)
		Longest(s, 4, 3)
		if !slices.Equal(s, stairs()) {
			t.Errorf("the steps are %v, behind %v", s, l)
		}
	}
}

// Ga1: of a great many steps the last one that has room is found.
func TestManySteps(t *testing.T) {
	var s []api.Step
	for n := range 100000 {
		s = append(s, api.Step{At: 3 * n, Free: n % 2})
	}
	if n, ok := Fit(s, 0, 1, 4); n != 299997 || !ok {
		t.Errorf("Fit: %d, %t", n, ok)
	}
	if n, ok := Fit(s, 1000, 1, 3); n != 1005 || !ok {
		t.Errorf("Fit: %d, %t", n, ok)
	}
	if l := All(s, 1); len(l) != 50000 {
		t.Errorf("All: %d", len(l))
	}
}

// Ga1 to Ga3 of any rows: go test -run xxx -fuzz=FuzzRows ./gaps.
func FuzzRows(f *testing.F) {
	f.Add(0, 0, 3, 3, []byte{5, 5, 2, 2, 5})
	f.Add(latest, latest+1, 256, 1, []byte{255, 0, 1})
	f.Add(7, -1, 1, longest, []byte{0, 9})
	f.Fuzz(func(t *testing.T, first, at, width, length int, some []byte) {
		if first < 0 || first > latest || len(some) == 0 || len(some) > 200 {
			return
		}
		r := row{first: first}
		for _, b := range some {
			r.free = append(r.free, int(b))
		}
		s := r.steps()
		if width < 1 || width > 256 || length < 1 || length > longest {
			wantNothing(t, s, at, width, length)
			return
		}
		checkFirst(t, s, at, width, length)
		checkTold(t, s, at, width, length)
		if length < 300 && first-300 < at && at < first+300 {
			check(t, r, at, width, length)
		}
	})
}
