package order

import (
	"errors"
	"math"
	"slices"
	"testing"

	"stint/api"
)

// ends are ints at which something turns, the least and the greatest int among them: differences of these run over.
func ends() []int {
	return []int{math.MinInt, math.MinInt + 1, -1, 0, 1, 2, api.MaxPrio, api.MaxTime, math.MaxInt - 1, math.MaxInt}
}

// of is a job of a Prio, a Sub and an Id.
func of(prio, sub, id int) api.Job {
	return api.Job{Prio: prio, Sub: sub, Id: id}
}

// all are the jobs of all Prios, Subs and Ids out of these.
func all(some []int) []api.Job {
	var l []api.Job
	for _, prio := range some {
		for _, sub := range some {
			for _, id := range some {
				l = append(l, of(prio, sub, id))
			}
		}
	}
	return l
}

// lists are all lists of so many jobs out of these at most, each with a User of its own, by its place, by which those alike are told apart.
func lists(some []api.Job, most int) [][]api.Job {
	l := [][]api.Job{nil}
	longest := l
	for n := range most {
		var longer [][]api.Job
		for _, shorter := range longest {
			for _, j := range some {
				j.User = "abcdefgh"[n : n+1]
				longer = append(longer, append(slices.Clone(shorter), j))
			}
		}
		l = append(l, longer...)
		longest = longer
	}
	return l
}

// few are jobs of which some are alike in all that orders them, some in a part of it.
func few() []api.Job {
	return []api.Job{of(1, 1, 1), of(1, 1, 2), of(1, 0, 2), of(2, 1, 2), of(2, 3, 1)}
}

// meantAhead tells by definition whether a job is ahead of another one.
func meantAhead(a, b api.Job) bool {
	if a.Prio != b.Prio {
		return a.Prio > b.Prio
	}
	if a.Sub != b.Sub {
		return a.Sub < b.Sub
	}
	return a.Id < b.Id
}

// meantSort puts each job at the place that it has by definition: behind those ahead of it, and behind those that stood in front of it and are neither ahead nor behind.
func meantSort(l []api.Job) []api.Job {
	sorted := make([]api.Job, len(l))
	for at, j := range l {
		place := 0
		for by, other := range l {
			if meantAhead(other, j) || by < at && !meantAhead(j, other) {
				place++
			}
		}
		sorted[place] = j
	}
	return sorted
}

// meantPut tells by definition where a job comes.
func meantPut(l []api.Job, j api.Job) []api.Job {
	var put []api.Job
	done := false
	for _, other := range l {
		if !done && meantAhead(j, other) {
			put = append(put, j)
			done = true
		}
		put = append(put, other)
	}
	if !done {
		put = append(put, j)
	}
	return put
}

// meantFirst tells by definition the first ones: all that are meant, cut off.
func meantFirst(l []api.Job, most int, meant func(j api.Job) bool) []api.Job {
	some := slices.DeleteFunc(slices.Clone(l), func(j api.Job) bool { return !meant(j) })
	return some[:min(len(some), max(most, 0))]
}

// isSorted tells by definition whether jobs are in order: none is ahead of one in front of it.
func isSorted(l []api.Job) bool {
	for at := range l {
		for by := range at {
			if meantAhead(l[at], l[by]) {
				return false
			}
		}
	}
	return true
}

func checkAhead(t *testing.T, a, b api.Job) {
	t.Helper()
	if ok := Ahead(a, b); ok != meantAhead(a, b) {
		t.Fatalf("Ahead(%v, %v) = %t", a, b, ok)
	}
}

func checkSort(t *testing.T, l []api.Job) {
	t.Helper()
	handed := slices.Clone(l)
	sorted := Sort(handed)
	if want := meantSort(l); !slices.Equal(sorted, want) || !isSorted(sorted) {
		t.Fatalf("Sort(%v) = %v; meant: %v", l, sorted, want)
	}
	if again := Sort(sorted); !slices.Equal(again, sorted) {
		t.Fatalf("sorting %v again: %v", sorted, again)
	}
	if !slices.Equal(handed, l) {
		t.Fatalf("Sort has turned %v into %v", l, handed)
	}
}

func checkPut(t *testing.T, l []api.Job, j api.Job) {
	t.Helper()
	handed := slices.Clone(l)
	put := Put(handed, j)
	if want := meantPut(l, j); !slices.Equal(put, want) {
		t.Fatalf("Put(%v, %v) = %v; meant: %v", l, j, put, want)
	}
	if isSorted(l) && !isSorted(put) {
		t.Fatalf("Put(%v, %v) = %v, which is not sorted", l, j, put)
	}
	if !slices.Equal(handed, l) {
		t.Fatalf("Put has turned %v into %v", l, handed)
	}
}

func checkPlace(t *testing.T, l []api.Job, id int) {
	t.Helper()
	want := -1
	for at := len(l) - 1; at >= 0; at-- {
		if l[at].Id == id {
			want = at
		}
	}
	if at := Place(l, id); at != want {
		t.Fatalf("Place(%v, %d) = %d; meant: %d", l, id, at, want)
	}
}

func checkFirst(t *testing.T, l []api.Job, most int, meant func(j api.Job) bool) {
	t.Helper()
	handed := slices.Clone(l)
	first := First(handed, most, meant)
	if want := meantFirst(l, most, meant); !slices.Equal(first, want) {
		t.Fatalf("First(%v, %d) = %v; meant: %v", l, most, first, want)
	}
	if !slices.Equal(handed, l) {
		t.Fatalf("First has turned %v into %v", l, handed)
	}
}

// Or1: a greater Prio; of one Prio a lesser Sub; of one Sub a lesser Id; and nothing else.
func TestAhead(t *testing.T) {
	for _, c := range []struct{ ahead, behind api.Job }{
		{of(2, 0, 0), of(1, 0, 0)}, {of(2, 9, 9), of(1, 0, 0)}, {of(2, 0, 9), of(1, 9, 0)}, {of(1000, 9, 9), of(0, 0, 0)}, {of(0, 9, 9), of(-1, 0, 0)},
		{of(1, 2, 0), of(1, 3, 0)}, {of(1, 2, 9), of(1, 3, 0)}, {of(1, 0, 9), of(1, api.MaxTime, 0)}, {of(1, -1, 9), of(1, 0, 0)},
		{of(1, 2, 3), of(1, 2, 4)}, {of(0, 0, 1), of(0, 0, 1<<30)}, {of(1, 2, -1), of(1, 2, 0)}, {of(0, 0, 9), of(0, 0, 10)},
		{of(math.MaxInt, 0, 0), of(math.MinInt, 0, 0)}, {of(0, math.MinInt, 0), of(0, math.MaxInt, 0)}, {of(0, 0, math.MinInt), of(0, 0, math.MaxInt)},
	} {
		if !Ahead(c.ahead, c.behind) {
			t.Errorf("%v is not ahead of %v", c.ahead, c.behind)
		}
		if Ahead(c.behind, c.ahead) {
			t.Errorf("%v is ahead of %v", c.behind, c.ahead)
		}
	}
	one := api.Job{Id: 1, User: "ann", Width: 2, Est: 9, Prio: 3, Sub: 2, State: api.JobDone, Start: 5, End: 9}
	for _, other := range []api.Job{one, of(3, 2, 1), {Id: 1, User: "zoe", Width: 9, Est: 99, Prio: 3, Sub: 2, State: api.JobHeld, Start: 1, End: 1}} {
		if Ahead(one, other) || Ahead(other, one) {
			t.Errorf("of %v and %v one is ahead", one, other)
		}
	}
	if Ahead(api.Job{}, api.Job{}) {
		t.Error("the zero job is ahead of itself")
	}
}

// Or1, Or2: all pairs of edges; of two of unlike Ids one is ahead, and not the other one.
func TestAheadByDefinition(t *testing.T) {
	some := all(ends())
	for _, a := range some {
		for _, b := range some {
			checkAhead(t, a, b)
			if a.Id != b.Id && Ahead(a, b) == Ahead(b, a) {
				t.Fatalf("of %v and %v one is not ahead", a, b)
			}
		}
	}
}

// Or2: what is ahead of one that is ahead of a third one is ahead of that.
func TestAheadGoesOn(t *testing.T) {
	some := all([]int{math.MinInt, 0, math.MaxInt})
	for _, a := range some {
		for _, b := range some {
			for _, c := range some {
				if Ahead(a, b) && Ahead(b, c) && !Ahead(a, c) {
					t.Fatalf("%v is ahead of %v, that of %v, and the first one not of the last one", a, b, c)
				}
			}
		}
	}
}

// Or1: those ahead come first, those alike as they stood; none at all.
func TestSort(t *testing.T) {
	high, low, late, last := of(2, 5, 1), of(1, 5, 2), of(2, 6, 1), of(2, 6, 2)
	ann, bob, cy := api.Job{Id: 1, User: "ann"}, api.Job{Id: 1, User: "bob"}, api.Job{Id: 1, User: "cy"}
	for _, c := range []struct{ l, want []api.Job }{
		{nil, nil}, {[]api.Job{}, nil}, {[]api.Job{low}, []api.Job{low}}, {[]api.Job{{}, {}}, []api.Job{{}, {}}},
		{[]api.Job{low, high}, []api.Job{high, low}}, {[]api.Job{high, low}, []api.Job{high, low}},
		{[]api.Job{low, last, late, high}, []api.Job{high, late, last, low}}, {[]api.Job{late, low, high, last}, []api.Job{high, late, last, low}},
		{[]api.Job{cy, ann, bob}, []api.Job{cy, ann, bob}}, {[]api.Job{bob, low, ann, low, cy}, []api.Job{low, low, bob, ann, cy}},
	} {
		if got := Sort(c.l); !slices.Equal(got, c.want) {
			t.Errorf("Sort(%v) = %v; want %v", c.l, got, c.want)
		}
	}
}

// Or1: all lists of five jobs at most, and all edges at once, in several orders.
func TestSortByDefinition(t *testing.T) {
	for _, l := range lists(few(), 5) {
		checkSort(t, l)
	}
	l := all([]int{math.MinInt, -1, 0, 1, math.MaxInt})
	for range 7 {
		checkSort(t, l)
		slices.Reverse(l)
		checkSort(t, l)
		l = append(l[len(l)/3:], l[:len(l)/3]...)
	}
}

// Or1: of many that are alike each stays behind those that stood in front of it; of few, any way to sort might do so.
func TestSortManyAlike(t *testing.T) {
	for _, some := range [][]api.Job{few(), few()[:1], few()[1:4]} {
		var l []api.Job
		for at := range 500 {
			j := some[at*at%7%len(some)]
			j.Width = at
			l = append(l, j)
		}
		sorted := Sort(l)
		if len(sorted) != len(l) {
			t.Fatalf("of %d jobs there are %d", len(l), len(sorted))
		}
		for at := 1; at < len(sorted); at++ {
			a, b := sorted[at-1], sorted[at]
			if meantAhead(b, a) || !meantAhead(a, b) && a.Width >= b.Width {
				t.Fatalf("%v stands ahead of %v", a, b)
			}
		}
	}
}

// Or1: in front of the first one that it is ahead of, also where jobs are not in order; behind those alike, and behind all.
func TestPut(t *testing.T) {
	a, b, c, d := of(4, 0, 1), of(3, 0, 2), of(2, 0, 3), of(1, 0, 4)
	alike := api.Job{Id: 3, User: "ann", Prio: 2}
	for _, x := range []struct {
		l    []api.Job
		j    api.Job
		want []api.Job
	}{
		{nil, a, []api.Job{a}}, {[]api.Job{}, api.Job{}, []api.Job{{}}},
		{[]api.Job{b, c}, a, []api.Job{a, b, c}}, {[]api.Job{a, c}, b, []api.Job{a, b, c}}, {[]api.Job{a, b}, c, []api.Job{a, b, c}},
		{[]api.Job{c}, alike, []api.Job{c, alike}}, {[]api.Job{b, c, d}, alike, []api.Job{b, c, alike, d}}, {[]api.Job{alike, d}, c, []api.Job{alike, c, d}}, {[]api.Job{c}, c, []api.Job{c, c}},
		{[]api.Job{d, a, c}, b, []api.Job{b, d, a, c}}, {[]api.Job{a, d, b}, c, []api.Job{a, c, d, b}}, {[]api.Job{c, b, a}, d, []api.Job{c, b, a, d}},
	} {
		if got := Put(x.l, x.j); !slices.Equal(got, x.want) {
			t.Errorf("Put(%v, %v) = %v; want %v", x.l, x.j, got, x.want)
		}
	}
}

// Or1, Or2: each job into all lists of four jobs at most, sorted ones and others.
func TestPutByDefinition(t *testing.T) {
	for _, l := range lists(few(), 4) {
		for _, j := range append(few(), of(0, 0, 0), of(1, 1, 0), of(3, 0, 0), of(math.MinInt, 0, 0), of(math.MaxInt, 0, 0)) {
			j.User = "z"
			checkPut(t, l, j)
			checkPut(t, Sort(l), j)
		}
	}
}

// Or2: what is put one by one is sorted.
func TestPutAll(t *testing.T) {
	for _, l := range append(lists(few(), 5), all([]int{math.MinInt, 0, 1, math.MaxInt})) {
		var put []api.Job
		for _, j := range l {
			put = Put(put, j)
		}
		if want := Sort(l); !slices.Equal(put, want) {
			t.Fatalf("of %v are put %v; sorted: %v", l, put, want)
		}
	}
}

// Or1: the first one of an Id, whatever else it is; -1, if there is none.
func TestPlace(t *testing.T) {
	l := []api.Job{of(1, 0, 7), of(2, 0, 3), of(3, 0, 7), of(0, 0, 0), of(0, 0, -4)}
	for _, c := range []struct{ id, want int }{
		{7, 0}, {3, 1}, {0, 3}, {-4, 4}, {1, -1}, {2, -1}, {-1, -1}, {8, -1}, {math.MinInt, -1}, {math.MaxInt, -1},
	} {
		if at := Place(l, c.id); at != c.want {
			t.Errorf("Place(%d) = %d; want %d", c.id, at, c.want)
		}
		if at := Place(nil, c.id); at != -1 {
			t.Errorf("Place(%d) of none: %d", c.id, at)
		}
		if at := Place([]api.Job{}, c.id); at != -1 {
			t.Errorf("Place(%d) of an empty list: %d", c.id, at)
		}
	}
	for _, l := range lists(few(), 4) {
		for id := -1; id <= 3; id++ {
			checkPlace(t, l, id)
		}
	}
}

// anyJob means each job.
func anyJob(j api.Job) bool { return true }

// noJob means none.
func noJob(j api.Job) bool { return false }

// Or1: the first ones of those that are meant, as they stand, however many there are.
func TestFirst(t *testing.T) {
	a, b, c, d := of(1, 0, 4), of(2, 0, 3), of(1, 0, 2), of(2, 0, 1)
	l := []api.Job{a, b, c, d, a}
	low := func(j api.Job) bool { return j.Prio == 1 }
	for _, x := range []struct {
		most  int
		meant func(j api.Job) bool
		want  []api.Job
	}{
		{1, low, []api.Job{a}}, {2, low, []api.Job{a, c}}, {3, low, []api.Job{a, c, a}}, {4, low, []api.Job{a, c, a}}, {math.MaxInt, low, []api.Job{a, c, a}},
		{0, low, nil}, {-1, low, nil}, {math.MinInt, low, nil},
		{1, anyJob, []api.Job{a}}, {4, anyJob, []api.Job{a, b, c, d}}, {5, anyJob, l}, {6, anyJob, l}, {math.MaxInt, anyJob, l}, {0, anyJob, nil}, {-5, anyJob, nil},
		{1, noJob, nil}, {math.MaxInt, noJob, nil}, {1, nil, nil}, {5, nil, nil}, {math.MaxInt, nil, nil}, {0, nil, nil}, {math.MinInt, nil, nil},
		{2, func(j api.Job) bool { return j == d }, []api.Job{d}}, {1, func(j api.Job) bool { return j.Prio == 2 }, []api.Job{b}},
	} {
		if got := First(l, x.most, x.meant); !slices.Equal(got, x.want) {
			t.Errorf("the first %d: %v; want %v", x.most, got, x.want)
		}
		if got := First(nil, x.most, x.meant); len(got) != 0 {
			t.Errorf("the first %d of none: %v", x.most, got)
		}
	}
}

// Or1: of all lists of five jobs at most, by what is handed over along with the function.
func TestFirstByDefinition(t *testing.T) {
	for _, l := range lists(few(), 5) {
		for most := -1; most <= 6; most++ {
			for id := 1; id <= 2; id++ {
				checkFirst(t, l, most, func(j api.Job) bool { return j.Id == id })
				checkFirst(t, l, most, func(j api.Job) bool { return j.Prio > id || j.Sub < id })
			}
			checkFirst(t, l, most, anyJob)
			checkFirst(t, l, most, noJob)
		}
	}
}

// P1: what is handed over may panic, in whatever way; nothing is told then, also not those ahead of it.
func TestFirstPanics(t *testing.T) {
	l := []api.Job{of(1, 0, 1), of(1, 0, 2), of(1, 0, 3)}
	var none map[int]int
	for _, c := range []func(){
		func() { panic("wrong") }, func() { panic(errors.New("wrong")) }, func() { panic(nil) }, func() { none[1] = 1 }, func() { l[len(none)+3].Id = 1 },
	} {
		for id := 1; id <= 3; id++ {
			got := First(l, 9, func(j api.Job) bool {
				if j.Id == id {
					c()
				}
				return true
			})
			if len(got) != 0 {
				t.Errorf("panicking at %d: %v", id, got)
			}
		}
	}
}

// R3: an answer is new memory, also where it is the same as what was handed over, or a part of it.
func TestNewMemory(t *testing.T) {
	a, b, c, other := of(3, 0, 1), of(2, 0, 2), of(1, 0, 3), of(9, 9, 9)
	room := []api.Job{a, b, c, c}
	l := room[:3]
	for _, answer := range [][]api.Job{
		Sort(l), Sort(l[:1]), Sort(l[:0]), Put(l, a), Put(l, c), Put(l[:2], c), Put(l[:2], a), Put(l[:0], a), First(l, 9, anyJob), First(l, 1, anyJob), First(l, 1, noJob),
	} {
		for at := range answer {
			answer[at] = other
		}
		_ = append(answer, other)
		if !slices.Equal(room, []api.Job{a, b, c, c}) {
			t.Fatalf("what an answer was turned into has turned what was handed over into %v", room)
		}
	}
}

// Or1: many jobs, the last one first, each Prio and Sub twice.
func TestMany(t *testing.T) {
	const many = 1 << 16
	var l []api.Job
	for at := range many {
		l = append(l, of(at/4, at/2%2, many-at))
	}
	sorted := Sort(l)
	if len(sorted) != many {
		t.Fatalf("of %d jobs there are %d", many, len(sorted))
	}
	for at := 1; at < many; at++ {
		if !Ahead(sorted[at-1], sorted[at]) {
			t.Fatalf("%v stands ahead of %v", sorted[at-1], sorted[at])
		}
	}
	if at := Place(sorted, 1); at != 2 {
		t.Errorf("the place of the last one: %d", at)
	}
	if put := Put(sorted, of(-1, 0, 0)); len(put) != many+1 || put[many].Prio != -1 {
		t.Error("Put behind many")
	}
	if first := First(sorted, many-1, anyJob); !slices.Equal(first, sorted[:many-1]) {
		t.Errorf("the first ones of many: %d", len(first))
	}
}

// Or1 and Or2 of any jobs: go test -run xxx -fuzz=FuzzOrder ./order.
func FuzzOrder(f *testing.F) {
	f.Add([]byte{1, 0, 1, 2, 0, 2, 2, 9, 3}, 1)
	f.Add([]byte{255, 255, 0, 254, 255, 0, 0, 0, 0, 0, 0, 0}, math.MaxInt)
	f.Fuzz(func(t *testing.T, some []byte, n int) {
		l := read(some)
		checkSort(t, l)
		checkPlace(t, l, n)
		checkFirst(t, l, n, func(j api.Job) bool { return j.Id != n })
		for _, j := range l {
			checkAhead(t, j, l[0])
			checkAhead(t, l[0], j)
			checkPut(t, l, j)
			checkPut(t, Sort(l), j)
			checkPlace(t, l, j.Id)
			checkFirst(t, l, n%8, func(other api.Job) bool { return Ahead(other, j) })
		}
	})
}

// read takes three bytes for a job: most for small numbers, some for the least and the greatest ones.
func read(some []byte) []api.Job {
	var l []api.Job
	for at := 0; at+2 < len(some) && at < 96; at += 3 {
		j := of(number(some[at]), number(some[at+1]), number(some[at+2]))
		j.Width = at
		l = append(l, j)
	}
	return l
}

func number(b byte) int {
	switch {
	case b >= 254:
		return []int{math.MinInt, math.MaxInt}[b-254]
	case b >= 200:
		return math.MaxInt - int(b)
	default:
		return int(b)%8 - 2
	}
}
