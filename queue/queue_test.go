package queue

import (
	"math"
	"slices"
	"strings"
	"testing"

	"stint/api"
)

const (
	widest  = 256
	longest = 1099511627776 // 2^40
)

// of is a class of these bounds.
func of(name string, minW, maxW, minE, maxE int) api.Class {
	return api.Class{Name: name, MinW: minW, MaxW: maxW, MinE: minE, MaxE: maxE}
}

// whole is a class of that name that has all widths and lengths.
func whole(name string) api.Class {
	return of(name, 1, widest, 1, longest)
}

// ask is a job of that width and length.
func ask(id, width, est int) api.Job {
	return api.Job{Id: id, Width: width, Est: est}
}

// names are names, and noNames are none.
func names() []string {
	return []string{"a", "z", "az", "batch", "abcdefghijklmnop", "qrstuvwxyz", "zzzzzzzzzzzzzzzz"}
}

func noNames() []string {
	return []string{"", "A", "aZ", " ", "a ", " a", "a1", "0", "a-b", "`", "{", "é", "aé", "ａ", "\x00", "a\x00", "a\xff", "\xff", "abcdefghijklmnopq", strings.Repeat("a", 1<<16)}
}

// ends are ints at which something turns, the least and the greatest int among them.
func ends() []int {
	return []int{math.MinInt, -longest, -1, 0, 1, 2, widest - 1, widest, widest + 1, longest - 1, longest, longest + 1, math.MaxInt}
}

// noClasses are classes that may not be, each by one thing alone.
func noClasses() []api.Class {
	l := []api.Class{{}, {Name: "a"},
		of("a", 0, 4, 1, 9), of("a", -1, 4, 1, 9), of("a", math.MinInt, 4, 1, 9), of("a", 0, 0, 1, 9), of("a", -4, -1, 1, 9),
		of("a", 5, 4, 1, 9), of("a", widest, 1, 1, 9), of("a", 1, 0, 1, 9), of("a", 1, math.MinInt, 1, 9), of("a", math.MaxInt, 4, 1, 9),
		of("a", 1, widest+1, 1, 9), of("a", 1, math.MaxInt, 1, 9), of("a", widest+1, widest+1, 1, 9), of("a", math.MinInt, math.MaxInt, 1, 9), of("a", math.MaxInt, math.MinInt, 1, 9),
		of("a", 1, 4, 0, 9), of("a", 1, 4, -1, 9), of("a", 1, 4, math.MinInt, 9), of("a", 1, 4, 0, 0), of("a", 1, 4, -9, -1),
		of("a", 1, 4, 10, 9), of("a", 1, 4, longest, 1), of("a", 1, 4, 1, 0), of("a", 1, 4, 1, math.MinInt), of("a", 1, 4, math.MaxInt, 9),
		of("a", 1, 4, 1, longest+1), of("a", 1, 4, 1, math.MaxInt), of("a", 1, 4, longest+1, longest+1), of("a", 1, 4, math.MinInt, math.MaxInt), of("a", 1, 4, math.MaxInt, math.MinInt),
	}
	for _, name := range noNames() {
		l = append(l, whole(name))
	}
	return l
}

// rows are so many classes that may be, each of one width and all lengths.
func rows(many int) []api.Class {
	var l []api.Class
	for n := range many {
		l = append(l, of("abcdefghijklmnopqrstuvwxyz"[n:n+1], n+1, n+1, 1, longest))
	}
	return l
}

// small are all classes of that name of bounds from 0 to 4, of which those of a 0, and those whose greatest is less than the least, may not be.
func small(name string) []api.Class {
	var l []api.Class
	for n := range 625 {
		l = append(l, of(name, n%5, n/5%5, n/25%5, n/125))
	}
	return l
}

// few are classes of which some have one name, some meet, some only just do not, and one may not be.
func few() []api.Class {
	return []api.Class{
		of("a", 1, 2, 1, 2), of("b", 3, 4, 1, 2), of("c", 1, 2, 3, 4), of("d", 3, 4, 3, 4), of("e", 2, 3, 2, 3), of("f", 1, 4, 1, 4),
		of("a", 3, 3, 4, 4), of("g", 4, 4, 4, 4), of("h", 1, 4, 2, 2), of("i", 1, 1, 1, 1), of("j", 0, 2, 1, 2),
	}
}

// lists are all lists of so many classes out of these at most.
func lists(some []api.Class, most int) [][]api.Class {
	l := [][]api.Class{nil}
	longest := l
	for range most {
		var longer [][]api.Class
		for _, shorter := range longest {
			for _, c := range some {
				longer = append(longer, append(slices.Clone(shorter), c))
			}
		}
		l = append(l, longer...)
		longest = longer
	}
	return l
}

// meantMay tells by definition whether a class may be.
func meantMay(c api.Class) bool {
	if len(c.Name) < 1 || len(c.Name) > 16 || strings.Trim(c.Name, "abcdefghijklmnopqrstuvwxyz") != "" {
		return false
	}
	for n := range len(c.Name) {
		if strings.IndexByte("abcdefghijklmnopqrstuvwxyz", c.Name[n]) < 0 {
			return false
		}
	}
	return 1 <= c.MinW && c.MinW <= c.MaxW && c.MaxW <= widest && 1 <= c.MinE && c.MinE <= c.MaxE && c.MaxE <= longest
}

// meantHas tells by definition whether a class has a width and a length.
func meantHas(c api.Class, width, est int) bool {
	return meantMay(c) && c.MinW <= width && width <= c.MaxW && c.MinE <= est && est <= c.MaxE
}

// meantMeet tells by definition whether classes meet: it tries all these widths and lengths.
func meantMeet(a, b api.Class, widths, lengths []int) bool {
	for _, width := range widths {
		for _, est := range lengths {
			if meantHas(a, width, est) && meantHas(b, width, est) {
				return true
			}
		}
	}
	return false
}

// bounds are the widths and the lengths of which two classes that meet both have one: they meet up to some bound.
func bounds(a, b api.Class) (widths, lengths []int) {
	return []int{a.MinW, a.MaxW, b.MinW, b.MaxW}, []int{a.MinE, a.MaxE, b.MinE, b.MaxE}
}

// meantCheck tells by definition why classes may not be.
func meantCheck(l []api.Class) api.Errno {
	if len(l) > 20 {
		return api.ErrFull
	}
	e := api.OK
	for at, a := range l {
		if !meantMay(a) {
			return api.ErrArg
		}
		for by, b := range l {
			widths, lengths := bounds(a, b)
			if at != by && (a.Name == b.Name || meantMeet(a, b, widths, lengths)) {
				e = api.ErrThere
			}
		}
	}
	return e
}

// meantFind tells by definition which class has a width and a length, if classes may be.
func meantFind(l []api.Class, width, est int) (int, bool) {
	for n, c := range l {
		if meantHas(c, width, est) && meantCheck(l) == api.OK {
			return n, true
		}
	}
	return 0, false
}

// alike tells whether lists of jobs are the same ones.
func alike(a, b [][]api.Job) bool {
	return slices.EqualFunc(a, b, slices.Equal[[]api.Job])
}

func checkPair(t *testing.T, a, b api.Class, widths, lengths []int) {
	t.Helper()
	want := meantMeet(a, b, widths, lengths)
	if Meet(a, b) != want || Meet(b, a) != want {
		t.Fatalf("Meet(%v, %v) = %t; the other way round: %t; meant: %t", a, b, Meet(a, b), Meet(b, a), want)
	}
	if Meet(a, a) != meantMay(a) {
		t.Fatalf("Meet(%v, itself) = %t", a, Meet(a, a))
	}
	for _, width := range widths {
		for _, est := range lengths {
			if ok := Has(a, width, est); ok != meantHas(a, width, est) {
				t.Fatalf("Has(%v, %d, %d) = %t", a, width, est, ok)
			}
		}
	}
}

func checkFind(t *testing.T, l []api.Class, width, est int) {
	t.Helper()
	n, ok := Find(l, width, est)
	want, has := meantFind(l, width, est)
	if n != want || ok != has {
		t.Fatalf("Find(%v, %d, %d) = %d, %t; meant: %d, %t", l, width, est, n, ok, want, has)
	}
}

// checkSplit holds Split against the definition, class by class: its jobs are those that it has, as they stand.
func checkSplit(t *testing.T, l []api.Class, jobs []api.Job) {
	t.Helper()
	classes, handed := slices.Clone(l), slices.Clone(jobs)
	split, rest, e := Split(classes, handed)
	if want := meantCheck(l); e != want || e != api.OK && (len(split) > 0 || len(rest) > 0) {
		t.Fatalf("Split(%v) = %v, %v, %d; meant: %d", l, split, rest, e, want)
	}
	if !slices.Equal(classes, l) || !slices.Equal(handed, jobs) {
		t.Fatalf("Split has turned what it was handed into %v and %v", classes, handed)
	}
	if e != api.OK {
		return
	}
	var want [][]api.Job
	var none []api.Job
	for _, c := range l {
		want = append(want, slices.DeleteFunc(slices.Clone(jobs), func(j api.Job) bool { return !meantHas(c, j.Width, j.Est) }))
	}
	for _, j := range jobs {
		if !slices.ContainsFunc(l, func(c api.Class) bool { return meantHas(c, j.Width, j.Est) }) {
			none = append(none, j)
		}
	}
	if !alike(split, want) || !slices.Equal(rest, none) {
		t.Fatalf("Split(%v, %v) = %v, %v; meant: %v, %v", l, jobs, split, rest, want, none)
	}
}

func wantCheck(t *testing.T, want api.Errno, l ...api.Class) {
	t.Helper()
	handed := slices.Clone(l)
	if e := Check(handed); e != want {
		t.Errorf("Check(%v) = %d; want %d", l, e, want)
	}
	if !slices.Equal(handed, l) {
		t.Errorf("Check has turned %v into %v", l, handed)
	}
}

// Qu1: a name, and bounds, the least and the greatest ones among them.
func TestCheckOne(t *testing.T) {
	wantCheck(t, api.OK)
	if e := Check([]api.Class{}); e != api.OK {
		t.Errorf("Check of an empty list: %d", e)
	}
	for _, name := range names() {
		wantCheck(t, api.OK, whole(name))
	}
	for _, c := range []api.Class{
		of("a", 1, 1, 1, 1), of("a", widest, widest, longest, longest), of("a", 1, 1, longest, longest), of("a", widest, widest, 1, 1), of("a", 3, 4, 5, 9), of("a", widest-1, widest, longest-1, longest),
	} {
		wantCheck(t, api.OK, c)
	}
	for _, c := range noClasses() {
		wantCheck(t, api.ErrArg, c)
	}
}

// Qu1: one name, or some width and length of both; not what is alike in one of these alone.
func TestCheckTwo(t *testing.T) {
	a := of("a", 3, 6, 30, 60)
	for _, c := range []struct {
		b    api.Class
		want api.Errno
	}{
		{of("b", 7, 9, 30, 60), api.OK}, {of("b", 1, 2, 30, 60), api.OK}, {of("b", 3, 6, 61, 90), api.OK}, {of("b", 3, 6, 1, 29), api.OK}, {of("b", 7, widest-1, 61, longest), api.OK}, {of("b", 1, 2, 1, 29), api.OK}, {of("aa", 1, widest, 61, 61), api.OK}, {of("b", 2, 2, 1, longest), api.OK},
		{of("b", 6, 9, 30, 60), api.ErrThere}, {of("b", 1, 3, 30, 60), api.ErrThere}, {of("b", 3, 6, 60, 90), api.ErrThere}, {of("b", 3, 6, 1, 30), api.ErrThere},
		{of("b", 6, 9, 60, 90), api.ErrThere}, {of("b", 1, 3, 1, 30), api.ErrThere}, {of("b", 6, 9, 1, 30), api.ErrThere}, {of("b", 1, 3, 60, 90), api.ErrThere},
		{of("b", 4, 5, 40, 50), api.ErrThere}, {of("b", 1, 9, 1, 90), api.ErrThere}, {of("b", 1, 9, 40, 50), api.ErrThere}, {of("b", 4, 5, 1, 90), api.ErrThere}, {of("b", 3, 6, 30, 60), api.ErrThere}, {whole("b"), api.ErrThere},
		{of("a", 7, 9, 30, 60), api.ErrThere}, {of("a", 7, 9, 61, 90), api.ErrThere}, {of("a", 1, 1, 1, 1), api.ErrThere}, {a, api.ErrThere},
	} {
		wantCheck(t, c.want, a, c.b)
		wantCheck(t, c.want, c.b, a)
		wantCheck(t, c.want, of("x", widest, widest, longest, longest), a, of("y", widest, widest, 1, 1), c.b, of("z", 1, 1, longest, longest))
	}
	wantCheck(t, api.ErrThere, of("a", 1, 4, 1, longest), of("b", 3, 8, 1, longest)) // the document's example
}

// Qu1: 20 at most, and none of all the pairs of them may have one name, or meet.
func TestCheckMany(t *testing.T) {
	for many := range 27 {
		want := api.OK
		if many > 20 {
			want = api.ErrFull
		}
		wantCheck(t, want, rows(many)...)
	}
	wantCheck(t, api.ErrFull, make([]api.Class, 1<<16)...)
	for a := range 20 {
		for b := range 20 {
			if a == b {
				continue
			}
			l := rows(20)
			l[a].Name = l[b].Name
			wantCheck(t, api.ErrThere, l...)
			l = rows(20)
			l[a].MinW, l[a].MaxW = l[b].MinW, l[b].MaxW
			wantCheck(t, api.ErrThere, l...)
		}
		for _, c := range noClasses() {
			l := rows(20)
			l[a] = c
			wantCheck(t, api.ErrArg, l...)
		}
	}
}

// Qu1: too many ahead of what may not be, which is ahead of what is there.
func TestCheckFirstError(t *testing.T) {
	a := whole("a")
	for _, c := range noClasses() {
		wantCheck(t, api.ErrArg, a, a, c)
		wantCheck(t, api.ErrArg, c, a, a)
		wantCheck(t, api.ErrArg, a, c, a)
		wantCheck(t, api.ErrArg, c, c)
		wantCheck(t, api.ErrFull, append(rows(20), c)...)
		wantCheck(t, api.ErrFull, slices.Repeat([]api.Class{c}, 21)...)
		wantCheck(t, api.ErrArg, slices.Repeat([]api.Class{c}, 20)...)
	}
	wantCheck(t, api.ErrFull, slices.Repeat([]api.Class{a}, 21)...)
	wantCheck(t, api.ErrThere, slices.Repeat([]api.Class{a}, 20)...)
}

// Qu1: within both bounds, which are themselves within.
func TestHas(t *testing.T) {
	c := of("batch", 3, 6, 30, 60)
	for _, x := range []struct {
		width, est int
		want       bool
	}{
		{3, 30, true}, {6, 60, true}, {3, 60, true}, {6, 30, true}, {4, 45, true},
		{2, 45, false}, {7, 45, false}, {4, 29, false}, {4, 61, false}, {2, 29, false}, {7, 61, false}, {2, 61, false}, {7, 29, false},
		{0, 0, false}, {-4, 45, false}, {4, -45, false}, {math.MinInt, 45, false}, {math.MaxInt, 45, false}, {4, math.MinInt, false}, {4, math.MaxInt, false}, {30, 3, false},
	} {
		if ok := Has(c, x.width, x.est); ok != x.want {
			t.Errorf("Has(%v, %d, %d) = %t", c, x.width, x.est, ok)
		}
	}
	for _, width := range ends() {
		for _, est := range ends() {
			want := 1 <= width && width <= widest && 1 <= est && est <= longest
			if ok := Has(whole("z"), width, est); ok != want {
				t.Errorf("all widths and lengths have %d, %d: %t", width, est, ok)
			}
		}
	}
}

// Qu1: a class that may not be has nothing, and meets none, also not itself.
func TestHasOfNone(t *testing.T) {
	for _, c := range noClasses() {
		widths, lengths := bounds(c, of("z", 1, 4, 1, 9))
		for _, width := range append(widths, ends()...) {
			for _, est := range append(lengths, ends()...) {
				if Has(c, width, est) {
					t.Errorf("Has(%v, %d, %d), which may not be", c, width, est)
				}
			}
		}
		for _, other := range append(noClasses(), whole("z"), of("z", 1, 4, 1, 9), of("a", 1, 1, 1, 1)) {
			if Meet(c, other) || Meet(other, c) {
				t.Errorf("%v, which may not be, meets %v", c, other)
			}
		}
	}
}

// Qu1: classes of one name meet, if their bounds do, and not otherwise.
func TestMeet(t *testing.T) {
	if !Meet(of("a", 1, 4, 1, longest), of("b", 3, 8, 1, longest)) {
		t.Error("the document's example does not meet")
	}
	a := of("a", 3, 6, 30, 60)
	for _, c := range []struct {
		b    api.Class
		want bool
	}{
		{a, true}, {of("a", 6, 6, 60, 60), true}, {of("a", 3, 3, 30, 30), true}, {of("a", 7, 9, 61, 90), false}, {of("a", 7, 7, 30, 60), false}, {of("a", 3, 6, 29, 29), false},
		{of("b", 6, widest, 60, longest), true}, {of("b", 7, widest, 1, longest), false}, {of("b", 1, widest, 61, longest), false}, {of("b", 1, widest, 1, 29), false}, {of("b", 1, 2, 1, longest), false}, {of("b", 1, 9, 45, 45), true}, {of("b", 4, 4, 1, longest), true},
	} {
		if Meet(a, c.b) != c.want || Meet(c.b, a) != c.want {
			t.Errorf("Meet(%v, %v) = %t; the other way round: %t", a, c.b, Meet(a, c.b), Meet(c.b, a))
		}
	}
}

// Qu1: all pairs of small classes, by all widths and lengths around them; and of bounds at the edges.
func TestPairsByDefinition(t *testing.T) {
	around := []int{-1, 0, 1, 2, 3, 4, 5}
	for _, a := range small("a") {
		if !meantMay(a) {
			checkPair(t, a, of("b", 1, 4, 1, 4), around, around)
			continue
		}
		for _, b := range small("b") {
			checkPair(t, a, b, around, around)
		}
	}
	edges := []int{0, 1, widest, widest + 1, longest, longest + 1}
	var late []api.Class
	for _, least := range edges {
		for _, most := range edges {
			late = append(late, of("a", least, most, 1, 1), of("a", 1, widest, least, most), of("a", least, most, least, most))
		}
	}
	for _, a := range late {
		for _, b := range late {
			checkPair(t, a, b, edges, edges)
		}
	}
}

// Qu1: the place of the class that has them; 0, false without one.
func TestFind(t *testing.T) {
	l := []api.Class{of("a", 1, 4, 1, 9), of("b", 5, 8, 1, 9), of("c", 1, 8, 10, longest), of("d", widest, widest, 1, 1)}
	for _, c := range []struct {
		width, est, n int
		ok            bool
	}{
		{1, 1, 0, true}, {4, 9, 0, true}, {4, 1, 0, true}, {5, 1, 1, true}, {8, 9, 1, true}, {6, 3, 1, true}, {4, 10, 2, true}, {5, 10, 2, true}, {8, longest, 2, true}, {widest, 1, 3, true},
		{9, 1, 0, false}, {9, 10, 0, false}, {0, 1, 0, false}, {1, 0, 0, false}, {1, longest + 1, 0, false}, {widest, 2, 0, false}, {widest + 1, 1, 0, false}, {-1, -1, 0, false}, {math.MinInt, math.MinInt, 0, false}, {math.MaxInt, math.MaxInt, 0, false},
	} {
		if n, ok := Find(l, c.width, c.est); n != c.n || ok != c.ok {
			t.Errorf("Find(%d, %d) = %d, %t; want %d, %t", c.width, c.est, n, ok, c.n, c.ok)
		}
		for _, none := range [][]api.Class{nil, {}} {
			if n, ok := Find(none, c.width, c.est); n != 0 || ok {
				t.Errorf("Find(%d, %d) of no classes: %d, %t", c.width, c.est, n, ok)
			}
		}
	}
	for n := range 20 {
		if at, ok := Find(rows(20), n+1, 7); at != n || !ok {
			t.Errorf("Find(%d, 7) = %d, %t", n+1, at, ok)
		}
	}
}

// wrong are lists of classes that may not be, though the first one, or the last one, has width 1 and length 1.
func wrong() [][]api.Class {
	one := of("a", 1, 1, 1, 1)
	return [][]api.Class{
		rows(21), slices.Repeat([]api.Class{one}, 21), {one, {}}, {{}, one}, {one, of("b", 2, widest+1, 1, 1)}, {of("B", 2, 2, 1, 1), one},
		{one, one}, {one, of("a", 2, 2, 1, 1)}, {one, of("b", 2, 4, 1, 9), of("c", 4, 4, 9, 9)}, {of("b", 2, 4, 1, 9), of("b", 5, 5, 1, 9), one}, {whole("b"), one}, {whole("A")},
	}
}

// Qu1, Qu2: of classes that may not be none is found, also where one has them, and no jobs are told.
func TestWrongClasses(t *testing.T) {
	jobs := []api.Job{ask(1, 1, 1), ask(2, 9, 9)}
	for _, l := range wrong() {
		if n, ok := Find(l, 1, 1); n != 0 || ok {
			t.Errorf("Find(%v) = %d, %t", l, n, ok)
		}
		e := Check(l)
		if split, rest, f := Split(l, jobs); len(split) > 0 || len(rest) > 0 || f != e || e == api.OK {
			t.Errorf("Split(%v) = %v, %v, %d; Check: %d", l, split, rest, f, e)
		}
		if _, _, f := Split(l, nil); f != e {
			t.Errorf("Split(%v) of no jobs: %d; Check: %d", l, f, e)
		}
	}
	for _, c := range []struct {
		l    []api.Class
		want api.Errno
	}{
		{rows(21), api.ErrFull}, {[]api.Class{{}}, api.ErrArg}, {[]api.Class{whole("a"), whole("b")}, api.ErrThere}, {append(rows(20), api.Class{}), api.ErrFull}, {[]api.Class{whole("a"), whole("a"), {}}, api.ErrArg},
	} {
		if _, _, e := Split(c.l, jobs); e != c.want {
			t.Errorf("Split(%v): %d; want %d", c.l, e, c.want)
		}
	}
}

// Qu2: each job counts, also one whose Id another one has, and one that may not be; as they stand, in each class and beside them.
func TestSplit(t *testing.T) {
	l := []api.Class{of("a", 1, 4, 1, 9), of("b", 5, 8, 1, 9), of("c", 9, 9, 1, 1)}
	zoe, ann := ask(7, 2, 2), ask(1, 2, 3)
	zoe.User, ann.User, ann.State, ann.Prio = "zoe", "ann", api.JobDone, -5
	wide, long, flat, none := ask(3, 9, 2), ask(2, 2, 10), ask(9, 0, 1), api.Job{}
	big, same := ask(4, 8, 9), ask(7, 5, 1)
	split, rest, e := Split(l, []api.Job{wide, zoe, big, ann, none, same, zoe, long, flat})
	want := [][]api.Job{{zoe, ann, zoe}, {big, same}, nil}
	if !alike(split, want) || !slices.Equal(rest, []api.Job{wide, none, long, flat}) || e != api.OK {
		t.Errorf("Split: %v, %v, %d", split, rest, e)
	}
	for _, jobs := range [][]api.Job{nil, {}} {
		if split, rest, e := Split(l, jobs); !alike(split, make([][]api.Job, 3)) || len(rest) > 0 || e != api.OK {
			t.Errorf("Split of no jobs: %v, %v, %d", split, rest, e)
		}
	}
	for _, none := range [][]api.Class{nil, {}} {
		if split, rest, e := Split(none, []api.Job{zoe, ann, zoe}); len(split) > 0 || !slices.Equal(rest, []api.Job{zoe, ann, zoe}) || e != api.OK {
			t.Errorf("Split by no classes: %v, %v, %d", split, rest, e)
		}
	}
	if split, rest, e := Split([]api.Class{whole("a")}, []api.Job{zoe, big, ann}); !alike(split, [][]api.Job{{zoe, big, ann}}) || len(rest) > 0 || e != api.OK {
		t.Errorf("Split by a class that has all: %v, %v, %d", split, rest, e)
	}
}

// Qu1, Qu2: all lists of four classes out of a few at most, and all widths and lengths around them.
func TestListsByDefinition(t *testing.T) {
	var jobs []api.Job
	for width := 5; width >= 0; width-- {
		for est := range 6 {
			jobs = append(jobs, ask(len(jobs)%7, width, est))
		}
	}
	jobs = append(jobs, jobs[8:30]...)
	for _, l := range lists(few(), 4) {
		if e, want := Check(l), meantCheck(l); e != want {
			t.Fatalf("Check(%v) = %d; meant: %d", l, e, want)
		}
		checkSplit(t, l, jobs)
		if len(l) > 3 {
			continue
		}
		for _, j := range jobs {
			checkFind(t, l, j.Width, j.Est)
		}
	}
}

// Qu3: of all lists of classes that may be, each job is in one class, or in none, and in the one that is found.
func TestNoJobInTwo(t *testing.T) {
	for _, l := range append(lists(few(), 4), rows(20)) {
		if Check(l) != api.OK {
			continue
		}
		for n := range 36 {
			j := ask(1, n%6, n/6)
			split, rest, _ := Split(l, []api.Job{j})
			has := slices.IndexFunc(split, func(some []api.Job) bool { return len(some) > 0 })
			if at, ok := Find(l, j.Width, j.Est); ok != (has >= 0) || ok && at != has {
				t.Fatalf("by %v: Find(%d, %d) = %d, %t; Split: %v", l, j.Width, j.Est, at, ok, split)
			}
			if told := slices.Concat(append(split, rest)...); !slices.Equal(told, []api.Job{j}) {
				t.Fatalf("by %v: of %v are told %v", l, j, told)
			}
		}
	}
}

// R3: an answer is new memory: lists of it share none with what was handed over, nor with each other.
func TestNewMemory(t *testing.T) {
	l := []api.Class{of("a", 1, 4, 1, 9), of("b", 5, 8, 1, 9)}
	room := []api.Job{ask(1, 1, 1), ask(2, 2, 2), ask(3, 5, 5), ask(4, 9, 9), ask(5, 9, 9)}
	was := slices.Clone(room)
	for from := range room {
		for to := from; to <= len(room); to++ {
			split, rest, _ := Split(l, room[from:to])
			again, others, _ := Split(l, room[from:to])
			for _, some := range append(split, rest) {
				for n := range some {
					some[n] = ask(9, 99, 99)
				}
				_ = append(some, ask(8, 88, 88))
			}
			if kept, left, _ := Split(l, was[from:to]); !alike(again, kept) || !slices.Equal(others, left) || !slices.Equal(room, was) {
				t.Fatalf("what an answer was turned into has turned %v, %v, %v", again, others, room)
			}
		}
	}
	jobs := slices.Repeat([]api.Job{ask(1, 1, 1), ask(2, 5, 1), ask(3, 9, 1)}, 5)
	for most := range len(jobs) + 1 {
		split, rest, _ := Split(l, jobs[:most])
		all := append(split, rest)
		for _, some := range all {
			_ = append(some, ask(8, 88, 88))
		}
		for n, some := range all {
			if slices.ContainsFunc(some, func(j api.Job) bool { return j.Id != n+1 }) {
				t.Fatalf("lists of one answer share memory: %v", all)
			}
		}
	}
}

// Qu2: many jobs.
func TestManyJobs(t *testing.T) {
	const many = 1 << 16
	var jobs []api.Job
	for n := range many {
		jobs = append(jobs, ask(n, n%32, 1+n))
	}
	checkSplit(t, rows(20), jobs)
}

// Qu1 to Qu3 of any classes: go test -run xxx -fuzz=FuzzClasses ./queue.
func FuzzClasses(f *testing.F) {
	f.Add([]byte{1, 1, 4, 1, 9, 2, 3, 8, 1, 9}, 4, 9)
	f.Add([]byte{1, 1, 1, 251, 251, 2, 250, 250, 1, 251, 3, 2, 3, 1, 1}, widest, longest)
	f.Add([]byte{0, 252, 253, 254, 255}, math.MinInt, math.MaxInt)
	f.Fuzz(func(t *testing.T, some []byte, width, est int) {
		l := read(some)
		if e, want := Check(l), meantCheck(l); e != want {
			t.Fatalf("Check(%v) = %d; meant: %d", l, e, want)
		}
		checkFind(t, l, width, est)
		jobs := []api.Job{ask(1, width, est), ask(2, est, width)}
		for _, c := range l {
			widths, lengths := bounds(c, l[0])
			checkPair(t, c, l[0], widths, lengths)
			jobs = append(jobs, ask(3, c.MinW, c.MaxE), ask(4, c.MaxW, c.MinE), ask(5, c.MaxW, est))
			checkFind(t, l, c.MaxW, c.MinE)
		}
		checkSplit(t, l, jobs)
	})
}

// read takes five bytes for a class: most for a short name, and small numbers, some for edges.
func read(some []byte) []api.Class {
	var l []api.Class
	for at := 0; at+4 < len(some) && len(l) < 25; at += 5 {
		name := []string{"", "A"}
		if n := int(some[at]) % 32; n > 1 {
			name[0] = "zyxwvutsrqponmlkjihgfedcbaabcde"[n-2 : n]
		}
		l = append(l, of(name[some[at]/255], number(some[at+1]), number(some[at+2]), number(some[at+3]), number(some[at+4])))
	}
	return l
}

func number(b byte) int {
	if b >= 248 {
		return []int{widest - 1, widest, longest - 1, longest, longest + 1, widest + 1, math.MinInt, math.MaxInt}[b-248]
	}
	return int(b)
}
