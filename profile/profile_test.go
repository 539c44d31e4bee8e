package profile

import (
	"math"
	"slices"
	"testing"

	"stint/api"
)

const never = api.Never

// meant is a profile by definition: how many processors there are, from when on, and all that was taken, and given back (of a width below 0).
type meant struct {
	procs, first int
	taken        []api.Busy
}

// free is by definition how many are free at a time.
func (m *meant) free(t int) int {
	free := m.procs
	for _, b := range m.taken {
		if b.From <= t && t < b.To {
			free -= b.Width
		}
	}
	return free
}

// marks are all times from the first one on, up to Never, at which what is free may change, and these, rising.
func (m *meant) marks(times ...int) []int {
	l := []int{m.first, never}
	for _, b := range m.taken {
		times = append(times, b.From, b.To)
	}
	for _, t := range times {
		if m.first < t && t < never {
			l = append(l, t)
		}
	}
	slices.Sort(l)
	return slices.Compact(l)
}

// within is the least and the greatest number that is free within a span.
func (m *meant) within(s api.Span) (least, most int) {
	least, most = math.MaxInt, math.MinInt
	for _, t := range m.marks(s.From, s.To) {
		if s.From <= t && t < s.To {
			least, most = min(least, m.free(t)), max(most, m.free(t))
		}
	}
	return least, most
}

// has tells by definition whether a span may be, and does not begin ahead of the first step.
func (m *meant) has(s api.Span) bool {
	return 0 <= s.From && s.From < s.To && s.To <= never && m.first <= s.From
}

func (m *meant) take(b api.Busy) api.Errno {
	s := api.Span{From: b.From, To: b.To}
	if !m.has(s) || b.Width < 1 || b.Width > 256 {
		return api.ErrArg
	}
	if least, _ := m.within(s); least < b.Width {
		return api.ErrBusy
	}
	m.taken = append(m.taken, b)
	return api.OK
}

func (m *meant) give(b api.Busy) api.Errno {
	s := api.Span{From: b.From, To: b.To}
	if !m.has(s) || b.Width < 1 || b.Width > 256 {
		return api.ErrArg
	}
	if _, most := m.within(s); most+b.Width > m.procs {
		return api.ErrOver
	}
	b.Width = -b.Width
	m.taken = append(m.taken, b)
	return api.OK
}

func (m *meant) move(t int) api.Errno {
	if t < m.first || t > 1<<50 {
		return api.ErrArg
	}
	m.first = t
	return api.OK
}

func (m *meant) steps() []api.Step {
	var s []api.Step
	for _, t := range m.marks() {
		if free := m.free(t); len(s) == 0 || s[len(s)-1].Free != free {
			s = append(s, api.Step{At: t, Free: free})
		}
	}
	return s
}

func (m *meant) copy() *meant {
	return &meant{procs: m.procs, first: m.first, taken: slices.Clone(m.taken)}
}

// turn is something that may be done to a profile.
type turn struct {
	how int
	b   api.Busy
}

const (
	taking = iota
	giving
	moving
)

func (c turn) real(x *Profile) api.Errno {
	switch c.how {
	case taking:
		return x.Take(c.b)
	case giving:
		return x.Give(c.b)
	default:
		return x.Move(c.b.From)
	}
}

func (c turn) meant(m *meant) api.Errno {
	switch c.how {
	case taking:
		return m.take(c.b)
	case giving:
		return m.give(c.b)
	default:
		return m.move(c.b.From)
	}
}

// ends are ints at which something turns: around 0, MaxTime and Never, the least and the greatest int.
func ends() []int {
	return []int{math.MinInt, -never, -1, 0, 1, 2, 3, 4, 5, api.MaxTime - 1, api.MaxTime, api.MaxTime + 1, never - 2, never - 1, never, never + 1, math.MaxInt}
}

// busy is all busy times with ends and widths out of these, those too that may not be.
func busy(ends, widths []int) []api.Busy {
	var l []api.Busy
	for _, from := range ends {
		for _, to := range ends {
			for _, width := range widths {
				l = append(l, api.Busy{From: from, To: to, Width: width})
			}
		}
	}
	return l
}

// wrong are busy times that may not be.
func wrong() []api.Busy {
	return []api.Busy{
		{}, {From: 0, To: 4}, {From: 0, To: 4, Width: -1}, {From: 0, To: 4, Width: 257}, {From: 0, To: 4, Width: math.MinInt}, {From: 0, To: 4, Width: math.MaxInt}, {From: 0, To: 4, Width: -256},
		{From: 4, To: 4, Width: 1}, {From: 4, To: 3, Width: 1}, {From: -1, To: 4, Width: 1}, {From: -4, To: -2, Width: 1}, {From: 0, To: never + 1, Width: 1}, {From: never, To: never + 1, Width: 1}, {From: never, To: never, Width: 1},
		{From: math.MinInt, To: math.MaxInt, Width: 1}, {From: math.MaxInt, To: math.MinInt, Width: 1}, {From: 0, To: math.MaxInt, Width: 1}, {From: math.MinInt, To: 4, Width: 1},
	}
}

// made is a profile of which these are taken.
func made(t *testing.T, p, at int, l ...api.Busy) *Profile {
	t.Helper()
	x, e := New(p, at)
	if e != api.OK || x == nil {
		t.Fatalf("New(%d, %d): %d", p, at, e)
	}
	for _, b := range l {
		if e := x.Take(b); e != api.OK {
			t.Fatalf("Take(%v) of %v: %d", b, x.Steps(), e)
		}
	}
	return x
}

func wantSteps(t *testing.T, x *Profile, what string, want ...api.Step) {
	t.Helper()
	if s := x.Steps(); !slices.Equal(s, want) {
		t.Errorf("%s: the steps are %v; want %v", what, s, want)
	}
}

// Pr1: how many processors there may be, and from when on; the first step is alone.
func TestNew(t *testing.T) {
	for _, p := range []int{math.MinInt, -1, 0, 1, 2, 5, 255, 256, 257, math.MaxInt} {
		for _, at := range ends() {
			want := api.OK
			if p < 1 || p > 256 || at < 0 || at > 1<<50 {
				want = api.ErrArg
			}
			x, e := New(p, at)
			if e != want || (x == nil) != (e != api.OK) {
				t.Fatalf("New(%d, %d) = %v, %d; want %d", p, at, x, e, want)
			}
			if x != nil {
				wantSteps(t, x, "new", api.Step{At: at, Free: p})
			}
			if x != nil && x.Procs() != p {
				t.Errorf("New(%d, %d) has %d", p, at, x.Procs())
			}
		}
	}
}

// Pr1: what is taken is free no more; as many as are free may be taken, at the first step, where another one begins or ends, and up to Never.
func TestTake(t *testing.T) {
	b := api.Busy{From: 2, To: 4, Width: 3}
	for _, c := range []struct {
		b    api.Busy
		want []api.Step
		e    api.Errno
	}{
		{b, nil, api.ErrBusy},
		{api.Busy{From: 2, To: 4, Width: 2}, []api.Step{{At: 0, Free: 5}, {At: 2, Free: 0}, {At: 4, Free: 5}}, api.OK},
		{api.Busy{From: 0, To: 2, Width: 5}, []api.Step{{At: 0, Free: 0}, {At: 2, Free: 2}, {At: 4, Free: 5}}, api.OK},
		{api.Busy{From: 0, To: 2, Width: 3}, []api.Step{{At: 0, Free: 2}, {At: 4, Free: 5}}, api.OK},
		{api.Busy{From: 0, To: 3, Width: 3}, nil, api.ErrBusy},
		{api.Busy{From: 0, To: 3, Width: 2}, []api.Step{{At: 0, Free: 3}, {At: 2, Free: 0}, {At: 3, Free: 2}, {At: 4, Free: 5}}, api.OK},
		{api.Busy{From: 4, To: 5, Width: 3}, []api.Step{{At: 0, Free: 5}, {At: 2, Free: 2}, {At: 5, Free: 5}}, api.OK},
		{api.Busy{From: 3, To: 5, Width: 3}, nil, api.ErrBusy},
		{api.Busy{From: 3, To: 5, Width: 2}, []api.Step{{At: 0, Free: 5}, {At: 2, Free: 2}, {At: 3, Free: 0}, {At: 4, Free: 3}, {At: 5, Free: 5}}, api.OK},
		{api.Busy{From: 4, To: never, Width: 5}, []api.Step{{At: 0, Free: 5}, {At: 2, Free: 2}, {At: 4, Free: 0}, {At: never, Free: 5}}, api.OK},
		{api.Busy{From: 3, To: never, Width: 3}, nil, api.ErrBusy},
		{api.Busy{From: 0, To: never, Width: 1}, []api.Step{{At: 0, Free: 4}, {At: 2, Free: 1}, {At: 4, Free: 4}, {At: never, Free: 5}}, api.OK},
		{api.Busy{From: never - 1, To: never, Width: 5}, []api.Step{{At: 0, Free: 5}, {At: 2, Free: 2}, {At: 4, Free: 5}, {At: never - 1, Free: 0}, {At: never, Free: 5}}, api.OK},
		{api.Busy{From: 4, To: 5, Width: 6}, nil, api.ErrBusy},
		{api.Busy{From: 4, To: 5, Width: 256}, nil, api.ErrBusy},
		{api.Busy{From: 4, To: 5, Width: 257}, nil, api.ErrArg},
		{api.Busy{From: -1, To: 5, Width: 256}, nil, api.ErrArg},
	} {
		x := made(t, 5, 0, b)
		if e := x.Take(c.b); e != c.e {
			t.Errorf("Take(%v) behind %v: %d; want %d", c.b, b, e, c.e)
		}
		if c.e != api.OK {
			c.want = []api.Step{{At: 0, Free: 5}, {At: 2, Free: 2}, {At: 4, Free: 5}}
		}
		wantSteps(t, x, "behind Take", c.want...)
	}
}

// Pr1: what is given back is free; no more than p, also where nobody took just that; also a part, and up to Never.
func TestGive(t *testing.T) {
	old := []api.Busy{{From: 2, To: 6, Width: 3}, {From: 4, To: never, Width: 2}}
	for _, c := range []struct {
		b    api.Busy
		want []api.Step
		e    api.Errno
	}{
		{old[0], []api.Step{{At: 0, Free: 5}, {At: 4, Free: 3}, {At: never, Free: 5}}, api.OK},
		{old[1], []api.Step{{At: 0, Free: 5}, {At: 2, Free: 2}, {At: 6, Free: 5}}, api.OK},
		{api.Busy{From: 4, To: 6, Width: 5}, []api.Step{{At: 0, Free: 5}, {At: 2, Free: 2}, {At: 4, Free: 5}, {At: 6, Free: 3}, {At: never, Free: 5}}, api.OK},
		{api.Busy{From: 4, To: 6, Width: 6}, nil, api.ErrOver},
		{api.Busy{From: 4, To: 7, Width: 3}, nil, api.ErrOver},
		{api.Busy{From: 3, To: 6, Width: 4}, nil, api.ErrOver},
		{api.Busy{From: 1, To: 6, Width: 1}, nil, api.ErrOver},
		{api.Busy{From: 1, To: 2, Width: 1}, nil, api.ErrOver},
		{api.Busy{From: 0, To: 1, Width: 256}, nil, api.ErrOver},
		{api.Busy{From: 0, To: never, Width: 1}, nil, api.ErrOver},
		{api.Busy{From: 9, To: never, Width: 3}, nil, api.ErrOver},
		{api.Busy{From: 2, To: never, Width: 2}, []api.Step{{At: 0, Free: 5}, {At: 2, Free: 4}, {At: 4, Free: 2}, {At: 6, Free: 5}}, api.OK},
		{api.Busy{From: never - 1, To: never, Width: 1}, []api.Step{{At: 0, Free: 5}, {At: 2, Free: 2}, {At: 4, Free: 0}, {At: 6, Free: 3}, {At: never - 1, Free: 4}, {At: never, Free: 5}}, api.OK},
		{api.Busy{From: 0, To: 1, Width: 257}, nil, api.ErrArg},
		{api.Busy{From: -1, To: 1, Width: 256}, nil, api.ErrArg},
	} {
		x := made(t, 5, 0, old...)
		before := x.Steps()
		if e := x.Give(c.b); e != c.e {
			t.Errorf("Give(%v) of %v: %d; want %d", c.b, before, e, c.e)
		}
		if c.e != api.OK {
			c.want = before
		}
		wantSteps(t, x, "behind Give", c.want...)
	}
}

// Pr1: of all 256 more can't be free, by as few or as many as may be told.
func TestGiveOfAll(t *testing.T) {
	for _, p := range []int{1, 255, 256} {
		x := made(t, p, 0)
		for _, width := range []int{1, 2, 255, 256} {
			if e := x.Give(api.Busy{From: 0, To: 1, Width: width}); e != api.ErrOver {
				t.Errorf("Give of %d, all of %d are free: %d", width, p, e)
			}
		}
		wantSteps(t, x, "nothing was given", api.Step{At: 0, Free: p})
	}
}

// Pr1: busy times that may not be, or begin ahead of the first step, by however little, are neither taken nor given, also where all are free, or none.
func TestWrongBusy(t *testing.T) {
	full := made(t, 5, 0, api.Busy{From: 0, To: never, Width: 5})
	late := made(t, 5, 7, api.Busy{From: 7, To: 9, Width: 5})
	last := made(t, 256, api.MaxTime)
	for _, x := range []*Profile{made(t, 5, 0), full, late, last} {
		first := x.Steps()
		l := wrong()
		for _, to := range []int{first[0].At, first[0].At + 1, never} {
			for _, width := range []int{1, 256} {
				l = append(l, api.Busy{From: first[0].At - 1, To: to, Width: width})
			}
		}
		for _, b := range l {
			if e := x.Take(b); e != api.ErrArg {
				t.Errorf("Take(%v) of %v: %d", b, first, e)
			}
			if e := x.Give(b); e != api.ErrArg {
				t.Errorf("Give(%v) of %v: %d", b, first, e)
			}
		}
		wantSteps(t, x, "behind what may not be", first...)
	}
}

// Pr2: ahead of the first step, at and between steps, and from Never on.
func TestFree(t *testing.T) {
	x := made(t, 5, 1, api.Busy{From: 2, To: 4, Width: 3}, api.Busy{From: 9, To: never, Width: 5})
	for _, c := range []struct {
		at, want int
		ok       bool
	}{
		{math.MinInt, 0, false}, {-1, 0, false}, {0, 0, false}, {1, 5, true}, {2, 2, true}, {3, 2, true}, {4, 5, true}, {8, 5, true}, {9, 0, true},
		{api.MaxTime + 1, 0, true}, {never - 1, 0, true}, {never, 0, false}, {never + 1, 0, false}, {math.MaxInt, 0, false},
	} {
		if n, ok := x.Free(c.at); n != c.want || ok != c.ok {
			t.Errorf("Free(%d) = %d, %t", c.at, n, ok)
		}
	}
}

// Pr2: spans across steps, between them, ahead of the first one, and those that may not be.
func TestLeast(t *testing.T) {
	x := made(t, 5, 1, api.Busy{From: 2, To: 4, Width: 3}, api.Busy{From: 9, To: never, Width: 4})
	for _, c := range []struct {
		from, to, want int
		ok             bool
	}{
		{1, 2, 5, true}, {1, 3, 2, true}, {3, 4, 2, true}, {3, 9, 2, true}, {4, 9, 5, true}, {4, 10, 1, true}, {1, never, 1, true}, {never - 1, never, 1, true},
		{0, 2, 0, false}, {0, 1, 0, false}, {-1, 3, 0, false}, {3, 3, 0, false}, {4, 3, 0, false}, {1, never + 1, 0, false}, {never, never + 1, 0, false}, {math.MinInt, math.MaxInt, 0, false}, {0, 0, 0, false},
	} {
		if n, ok := x.Least(api.Span{From: c.from, To: c.to}); n != c.want || ok != c.ok {
			t.Errorf("Least(%d to %d) = %d, %t", c.from, c.to, n, ok)
		}
	}
}

// Pr2: steps from a time on, never back; what is gone can be neither asked for nor given back any more, the rest of it can.
func TestMove(t *testing.T) {
	b := api.Busy{From: 2, To: 6, Width: 3}
	for _, c := range []struct {
		at   int
		want []api.Step
		e    api.Errno
	}{
		{1, []api.Step{{At: 1, Free: 5}, {At: 2, Free: 2}, {At: 6, Free: 5}}, api.OK},
		{2, []api.Step{{At: 2, Free: 2}, {At: 6, Free: 5}}, api.OK},
		{4, []api.Step{{At: 4, Free: 2}, {At: 6, Free: 5}}, api.OK},
		{6, []api.Step{{At: 6, Free: 5}}, api.OK},
		{7, []api.Step{{At: 7, Free: 5}}, api.OK},
		{api.MaxTime, []api.Step{{At: api.MaxTime, Free: 5}}, api.OK},
		{api.MaxTime + 1, nil, api.ErrArg}, {never, nil, api.ErrArg}, {math.MaxInt, nil, api.ErrArg},
		{0, nil, api.ErrArg}, {-1, nil, api.ErrArg}, {math.MinInt, nil, api.ErrArg},
	} {
		x := made(t, 5, 1, b)
		if e := x.Move(c.at); e != c.e {
			t.Errorf("Move(%d): %d; want %d", c.at, e, c.e)
		}
		if c.e != api.OK {
			c.want = []api.Step{{At: 1, Free: 5}, {At: 2, Free: 2}, {At: 6, Free: 5}}
		}
		wantSteps(t, x, "behind Move", c.want...)
	}
	x := made(t, 5, 1, b)
	moved, back := x.Move(4), x.Move(3)
	whole, rest := x.Give(b), x.Give(api.Busy{From: 4, To: 6, Width: 3})
	if moved != api.OK || back != api.ErrArg || whole != api.ErrArg || rest != api.OK {
		t.Errorf("behind Move: %d, %d, %d, %d", moved, back, whole, rest)
	}
	wantSteps(t, x, "the rest is given", api.Step{At: 4, Free: 5})
}

// Pr2, Pr3: a copy is the same now; what one does does not turn the other one, whichever does it, nor a copy of a copy.
func TestCopy(t *testing.T) {
	b := api.Busy{From: 2, To: 6, Width: 3}
	turns := []turn{
		{taking, api.Busy{From: 2, To: 6, Width: 2}}, {taking, api.Busy{From: 3, To: 9, Width: 1}}, {giving, b}, {giving, api.Busy{From: 3, To: 4, Width: 1}},
		{moving, api.Busy{From: 1}}, {moving, api.Busy{From: 4}}, {moving, api.Busy{From: 9}},
	}
	for _, c := range turns {
		x := made(t, 5, 1, b)
		y := x.Copy()
		z := y.Copy()
		before := x.Steps()
		for n, w := range []*Profile{x, y, z} {
			if w == nil || w.Procs() != 5 || !slices.Equal(w.Steps(), before) {
				t.Fatalf("number %d is not the same, as another one did %v: %v", n, c, w)
			}
			if e := c.real(w); e != api.OK {
				t.Errorf("%v: %d", c, e)
			}
		}
		if !slices.Equal(x.Steps(), y.Steps()) || !slices.Equal(y.Steps(), z.Steps()) {
			t.Errorf("%v of each: %v, %v, %v", c, x.Steps(), y.Steps(), z.Steps())
		}
	}
}

// Pr1, Pr2 (R1): of what New did not give there is nothing, by whatever is asked; and it stays so.
func TestNobodys(t *testing.T) {
	for _, x := range []*Profile{nil, {}, new(Profile)} {
		for range 2 {
			l := append(wrong(), api.Busy{From: 0, To: 4, Width: 1}, api.Busy{From: 0, To: never, Width: 256})
			for _, b := range l {
				if e, f := x.Take(b), x.Give(b); e != api.ErrState || f != api.ErrState {
					t.Errorf("Take, Give(%v): %d, %d", b, e, f)
				}
				if n, ok := x.Least(api.Span{From: b.From, To: b.To}); n != 0 || ok {
					t.Errorf("Least(%d to %d): %d, %t", b.From, b.To, n, ok)
				}
			}
			for _, at := range ends() {
				if e := x.Move(at); e != api.ErrState {
					t.Errorf("Move(%d): %d", at, e)
				}
				if n, ok := x.Free(at); n != 0 || ok {
					t.Errorf("Free(%d): %d, %t", at, n, ok)
				}
			}
			if len(x.Steps()) != 0 || x.Copy() != nil || x.Procs() != 0 {
				t.Errorf("%v, %v, %d", x.Steps(), x.Copy(), x.Procs())
			}
		}
	}
}

// R3: what Steps answers is new memory.
func TestNewMemory(t *testing.T) {
	x := made(t, 5, 0, api.Busy{From: 2, To: 6, Width: 3})
	y := x.Copy()
	want := []api.Step{{At: 0, Free: 5}, {At: 2, Free: 2}, {At: 6, Free: 5}}
	for _, w := range []*Profile{x, y} {
		s := w.Steps()
		_ = append(s[:1], api.Step{At: 78, Free: 7})
		for n := range s {
			s[n] = api.Step{At: 77, Free: 7}
		}
		wantSteps(t, x, "what it told was written to", want...)
		wantSteps(t, y, "what it told was written to", want...)
	}
}

// check holds a turn against its definition, and all that can be told behind it; it tells the error.
func check(t *testing.T, x *Profile, m *meant, c turn) api.Errno {
	t.Helper()
	before := x.Steps()
	e := c.real(x)
	if want := c.meant(m); e != want {
		t.Fatalf("%v of %v: %d; meant: %d", c, before, e, want)
	}
	if s, want := x.Steps(), m.steps(); !slices.Equal(s, want) {
		t.Fatalf("%v of %v: %v; meant: %v", c, before, s, want)
	}
	if x.Procs() != m.procs {
		t.Fatalf("%v of %v: %d processors", c, before, x.Procs())
	}
	return e
}

// checkTold holds Free and Least against their definitions.
func checkTold(t *testing.T, x *Profile, m *meant, s api.Span) {
	t.Helper()
	n, ok := x.Free(s.From)
	if in := m.first <= s.From && s.From < never; ok != in || in && n != m.free(s.From) || !in && n != 0 {
		t.Fatalf("Free(%d) of %v = %d, %t", s.From, x.Steps(), n, ok)
	}
	want, in := 0, m.has(s)
	if in {
		want, _ = m.within(s)
	}
	if n, ok := x.Least(s); n != want || ok != in {
		t.Fatalf("Least(%v) of %v = %d, %t; meant: %d, %t", s, x.Steps(), n, ok, want, in)
	}
}

// checkBack takes and gives back, or gives and takes again, what the profile lets be taken or given: that turned nothing (Pr3).
func checkBack(t *testing.T, x *Profile, c turn) {
	t.Helper()
	y := x.Copy()
	back := turn{giving, c.b}
	if c.how == giving {
		back.how = taking
	}
	if c.how == moving || c.real(y) != api.OK {
		return
	}
	if e := back.real(y); e != api.OK || !slices.Equal(y.Steps(), x.Steps()) {
		t.Fatalf("%v and back, of %v: %d, %v", c, x.Steps(), e, y.Steps())
	}
}

// Pr1 to Pr3: all that can be done by four turns, in a row, with small busy times.
func TestByDefinition(t *testing.T) {
	var turns []turn
	for _, b := range busy([]int{-1, 0, 1, 2, 3}, []int{1, 2}) {
		if b.From <= b.To {
			turns = append(turns, turn{taking, b}, turn{giving, b})
		}
	}
	for at := -1; at < 4; at++ {
		turns = append(turns, turn{moving, api.Busy{From: at}})
	}
	for first := range 2 {
		walk(t, made(t, 2, first), &meant{procs: 2, first: first}, turns, 4)
	}
}

// walk goes on from a profile by each turn, so many in a row; a turn that is refused has turned nothing, so nothing goes on behind it.
func walk(t *testing.T, x *Profile, m *meant, turns []turn, rows int) {
	t.Helper()
	for _, c := range turns {
		checkBack(t, x, c)
		y, n := x.Copy(), m.copy()
		if check(t, y, n, c) == api.OK && rows > 1 {
			walk(t, y, n, turns, rows-1)
		}
	}
}

// Pr1 to Pr3: all busy times with ends around 0, MaxTime and Never, behind one that was taken, and all times there.
func TestEdgesByDefinition(t *testing.T) {
	l := busy(ends(), []int{0, 1, 4, 5, 256, 257})
	for _, first := range []int{0, 3, api.MaxTime} {
		for _, old := range []api.Busy{{From: 3, To: 5, Width: 4}, {From: api.MaxTime, To: never, Width: 1}, {From: api.MaxTime, To: api.MaxTime + 1, Width: 5}, {From: never - 1, To: never, Width: 4}} {
			x, m := made(t, 5, first), &meant{procs: 5, first: first}
			check(t, x, m, turn{taking, old})
			for _, b := range l {
				for _, how := range []int{taking, giving, moving} {
					checkBack(t, x, turn{how, b})
					check(t, x.Copy(), m.copy(), turn{how, b})
				}
				checkTold(t, x, m, api.Span{From: b.From, To: b.To})
			}
		}
	}
}

// Pr3: a great many are taken, and given back in another order: nothing is left of them.
func TestManyGoAndCome(t *testing.T) {
	x := made(t, 256, 0)
	var l []api.Busy
	for n := range 512 {
		b := api.Busy{From: n * 37 % 211, To: 211 + n*53%97, Width: 1 + n%3}
		if x.Take(b) == api.OK {
			l = append(l, b)
		}
	}
	if len(l) < 100 || len(l) == 512 {
		t.Fatalf("%d were taken", len(l))
	}
	slices.SortStableFunc(l, func(a, b api.Busy) int { return a.To - b.To })
	for n, b := range l {
		if e := x.Give(b); e != api.OK {
			t.Fatalf("Give(%v), number %d of %d: %d", b, n, len(l), e)
		}
	}
	wantSteps(t, x, "all is given back", api.Step{At: 0, Free: 256})
}

// Pr1 to Pr3 of any turns: go test -run xxx -fuzz=FuzzTurns ./profile.
func FuzzTurns(f *testing.F) {
	f.Add(5, 0, []byte{0, 4, 6, 4, 0, 3, 6, 3, 1, 4, 6, 4, 2, 5, 0, 0})
	f.Add(256, 3, []byte{0, 5, 240, 255, 0, 9, 250, 2, 1, 6, 240, 9, 2, 220, 0, 0, 1, 225, 240, 3})
	f.Fuzz(func(t *testing.T, p, first int, some []byte) {
		x, e := New(p, first)
		m := &meant{procs: p, first: first}
		if (e == api.OK) != (1 <= p && p <= 256 && 0 <= first && first <= 1<<50) {
			t.Fatalf("New(%d, %d): %d", p, first, e)
		}
		if e != api.OK {
			return
		}
		for at := 0; at+3 < len(some) && at < 160; at += 4 {
			b := api.Busy{From: time(some[at+1]), To: time(some[at+2]), Width: int(some[at+3]) - 1}
			checkTold(t, x, m, api.Span{From: b.From, To: b.To})
			checkBack(t, x, turn{int(some[at]) % 3, b})
			check(t, x, m, turn{int(some[at]) % 3, b})
		}
	})
}

// time is near 0 for most bytes, near MaxTime or Never, or beyond, for some.
func time(b byte) int {
	switch {
	case b >= 254:
		return []int{math.MinInt, math.MaxInt}[b-254]
	case b >= 230:
		return never + int(b) - 240
	case b >= 210:
		return api.MaxTime + int(b) - 220
	default:
		return int(b) - 2
	}
}
