package span

import (
	"math"
	"slices"
	"testing"

	"stint/api"
)

const never = api.Never

// ends are ints at which something turns: around 0 and Never, MaxTime, the least and the greatest int.
func ends() []int {
	return []int{math.MinInt, math.MinInt + 1, -never, -2, -1, 0, 1, 2, 3, api.MaxTime, never - 2, never - 1, never, never + 1, never + 2, math.MaxInt - 1, math.MaxInt}
}

// pairs are all spans with ends out of these, those too that may not be.
func pairs(ends []int) []api.Span {
	var l []api.Span
	for _, from := range ends {
		for _, to := range ends {
			l = append(l, api.Span{From: from, To: to})
		}
	}
	return l
}

// meantHas tells by definition whether one of some spans has a time.
func meantHas(l []api.Span, t int) bool {
	return slices.ContainsFunc(l, func(s api.Span) bool {
		return 0 <= s.From && s.From < s.To && s.To <= never && s.From <= t && t < s.To
	})
}

// marks are 0, Never, and all ends of spans between them, rising: what has a time has all of them up to the next mark.
func marks(lists ...[]api.Span) []int {
	m := []int{0, never}
	for _, l := range lists {
		for _, s := range l {
			for _, t := range []int{s.From, s.To} {
				if 0 < t && t < never {
					m = append(m, t)
				}
			}
		}
	}
	slices.Sort(m)
	return slices.Compact(m)
}

// meantCover tells by definition the cover of the times of which has tells, going from mark to mark.
func meantCover(m []int, has func(t int) bool) []api.Span {
	var cover []api.Span
	for at := range len(m) - 1 {
		from, to := m[at], m[at+1]
		last := len(cover) - 1
		switch {
		case !has(from):
		case last >= 0 && cover[last].To == from:
			cover[last].To = to
		default:
			cover = append(cover, api.Span{From: from, To: to})
		}
	}
	return cover
}

func meantTotal(cover []api.Span) int {
	all := 0
	for _, s := range cover {
		all += s.To - s.From
	}
	return all
}

// isCover tells by definition whether spans are a cover.
func isCover(l []api.Span) bool {
	for at, s := range l {
		if s.From < 0 || s.From >= s.To || s.To > never || at > 0 && l[at-1].To >= s.From {
			return false
		}
	}
	return true
}

func checkCover(t *testing.T, l []api.Span) {
	t.Helper()
	handed := slices.Clone(l)
	meant := meantCover(marks(l), func(at int) bool { return meantHas(l, at) })
	if c := Cover(handed); !slices.Equal(c, meant) || !isCover(c) {
		t.Errorf("Cover(%v) = %v; meant: %v", l, c, meant)
	}
	if n := Total(handed); n != meantTotal(meant) {
		t.Errorf("Total(%v) = %d; meant: %d", l, n, meantTotal(meant))
	}
	if !slices.Equal(handed, l) {
		t.Errorf("Cover or Total of %v has turned it into %v", l, handed)
	}
}

func checkLess(t *testing.T, l, m []api.Span) {
	t.Helper()
	handed, others := slices.Clone(l), slices.Clone(m)
	meant := meantCover(marks(l, m), func(at int) bool { return meantHas(l, at) && !meantHas(m, at) })
	if c := Less(handed, others); !slices.Equal(c, meant) || !isCover(c) {
		t.Errorf("Less(%v, %v) = %v; meant: %v", l, m, c, meant)
	}
	if !slices.Equal(handed, l) || !slices.Equal(others, m) {
		t.Errorf("Less of %v and %v has turned them into %v and %v", l, m, handed, others)
	}
}

// checkFollows holds Sp3: a cover's cover is itself; what l has, and m has not, and what both have, are as long as l's cover.
func checkFollows(t *testing.T, l, m []api.Span) {
	t.Helper()
	cover, other := Cover(l), Cover(m)
	if again := Cover(cover); !slices.Equal(again, cover) {
		t.Errorf("the cover of %v is %v, and the cover of that is %v", l, cover, again)
	}
	less := Less(l, m)
	if again := Cover(less); !slices.Equal(again, less) {
		t.Errorf("Less(%v, %v) is %v, and the cover of that is %v", l, m, less, again)
	}
	both := 0
	for _, a := range cover {
		for _, b := range other {
			s, _ := Meet(a, b)
			both += Len(s)
		}
	}
	if Total(less)+both != Total(l) {
		t.Errorf("of %v less %v there are %d times, in both %d, of the first one %d", l, m, Total(less), both, Total(l))
	}
}

// Sp1: a span may be, if it begins at 0 or later, has some time, and ends at Never at most.
func TestMay(t *testing.T) {
	for _, c := range []struct {
		from, to int
		want     bool
	}{
		{0, 1, true}, {0, never, true}, {3, 7, true}, {never - 1, never, true}, {api.MaxTime, never, true}, {api.MaxTime, api.MaxTime + 1, true},
		{0, 0, false}, {2, 2, false}, {3, 2, false}, {never, never, false}, {never, never - 1, false}, {never, 0, false},
		{-1, 0, false}, {-1, 1, false}, {-1, never, false}, {-5, -3, false}, {0, -1, false},
		{0, never + 1, false}, {never - 1, never + 1, false}, {never, never + 1, false}, {never + 1, never + 2, false},
		{math.MinInt, 1, false}, {math.MinInt, math.MaxInt, false}, {0, math.MaxInt, false}, {1, math.MinInt, false}, {math.MaxInt, math.MinInt, false},
		{math.MaxInt, math.MaxInt, false}, {math.MinInt, math.MinInt, false}, {math.MinInt, math.MinInt + 1, false}, {math.MaxInt - 1, math.MaxInt, false},
	} {
		if ok := May(api.Span{From: c.from, To: c.to}); ok != c.want {
			t.Errorf("May of %d to %d = %t", c.from, c.to, ok)
		}
	}
	if May(api.Span{}) {
		t.Error("May of the zero span")
	}
}

// Sp1: the first time is one of a span's, the one at which it ends is not; what may not be has none.
func TestHas(t *testing.T) {
	for _, c := range []struct {
		from, to, at int
		want         bool
	}{
		{2, 5, 1, false}, {2, 5, 2, true}, {2, 5, 3, true}, {2, 5, 4, true}, {2, 5, 5, false}, {2, 5, 6, false}, {2, 3, 2, true}, {2, 3, 3, false},
		{0, 1, 0, true}, {0, 1, -1, false}, {0, 1, 1, false}, {0, never, never - 1, true}, {0, never, never, false}, {0, never, 0, true}, {0, never, -1, false},
		{0, never, math.MaxInt, false}, {0, never, math.MinInt, false},
		{2, 2, 2, false}, {5, 2, 3, false}, {0, 0, 0, false}, {-1, 5, 0, false}, {-1, 5, -1, false}, {-1, 5, 3, false},
		{0, never + 1, 0, false}, {0, never + 1, never, false}, {never, never + 1, never, false}, {math.MinInt, math.MaxInt, 0, false},
	} {
		if ok := Has(api.Span{From: c.from, To: c.to}, c.at); ok != c.want {
			t.Errorf("Has of %d to %d of %d = %t", c.from, c.to, c.at, ok)
		}
	}
}

// Sp1: how many times a span has; those that may not be have none.
func TestLen(t *testing.T) {
	for _, c := range []struct{ from, to, want int }{
		{0, 1, 1}, {2, 5, 3}, {0, never, never}, {1, never, never - 1}, {never - 1, never, 1}, {api.MaxTime, never, never - api.MaxTime},
		{0, 0, 0}, {5, 2, 0}, {-1, 5, 0}, {-3, -1, 0}, {0, never + 1, 0}, {never, never + 1, 0}, {math.MinInt, math.MaxInt, 0}, {math.MaxInt, math.MinInt, 0}, {0, math.MaxInt, 0}, {math.MinInt, 0, 0},
	} {
		if n := Len(api.Span{From: c.from, To: c.to}); n != c.want {
			t.Errorf("Len of %d to %d = %d", c.from, c.to, n)
		}
	}
}

// Sp1: all spans with ends at edges.
func TestOneByDefinition(t *testing.T) {
	for _, s := range pairs(ends()) {
		some := []api.Span{s}
		for _, at := range ends() {
			if ok := Has(s, at); ok != meantHas(some, at) {
				t.Errorf("Has(%v, %d) = %t", s, at, ok)
			}
		}
		meant := meantCover(marks(some), func(at int) bool { return meantHas(some, at) })
		if ok := May(s); ok != (len(meant) > 0) {
			t.Errorf("May(%v) = %t", s, ok)
		}
		if n := Len(s); n != meantTotal(meant) {
			t.Errorf("Len(%v) = %d; meant: %d", s, n, meantTotal(meant))
		}
	}
}

// Sp1: what two spans have in common; those that only touch, and those that may not be, have nothing.
func TestMeet(t *testing.T) {
	for _, c := range []struct {
		a, b, want api.Span
		ok         bool
	}{
		{api.Span{From: 0, To: 5}, api.Span{From: 3, To: 8}, api.Span{From: 3, To: 5}, true},
		{api.Span{From: 3, To: 8}, api.Span{From: 0, To: 5}, api.Span{From: 3, To: 5}, true},
		{api.Span{From: 0, To: 9}, api.Span{From: 3, To: 5}, api.Span{From: 3, To: 5}, true},
		{api.Span{From: 3, To: 5}, api.Span{From: 3, To: 5}, api.Span{From: 3, To: 5}, true},
		{api.Span{From: 3, To: 5}, api.Span{From: 4, To: 5}, api.Span{From: 4, To: 5}, true},
		{api.Span{From: 0, To: 3}, api.Span{From: 2, To: 5}, api.Span{From: 2, To: 3}, true},
		{api.Span{From: 0, To: never}, api.Span{From: never - 1, To: never}, api.Span{From: never - 1, To: never}, true},
		{api.Span{From: 0, To: 2}, api.Span{From: 2, To: 4}, api.Span{}, false},
		{api.Span{From: 2, To: 4}, api.Span{From: 0, To: 2}, api.Span{}, false},
		{api.Span{From: 0, To: 2}, api.Span{From: 3, To: 4}, api.Span{}, false},
		{api.Span{From: 0, To: 5}, api.Span{From: 3, To: 3}, api.Span{}, false},
		{api.Span{From: 0, To: 5}, api.Span{From: 4, To: 2}, api.Span{}, false},
		{api.Span{From: 0, To: 5}, api.Span{From: -1, To: 3}, api.Span{}, false},
		{api.Span{From: -1, To: 3}, api.Span{From: 0, To: 5}, api.Span{}, false},
		{api.Span{From: -1, To: 3}, api.Span{From: -1, To: 3}, api.Span{}, false},
		{api.Span{From: 0, To: 5}, api.Span{From: 0, To: never + 1}, api.Span{}, false},
		{api.Span{From: 0, To: math.MaxInt}, api.Span{From: 0, To: never}, api.Span{}, false},
		{api.Span{From: math.MinInt, To: math.MaxInt}, api.Span{From: 1, To: 2}, api.Span{}, false},
		{api.Span{}, api.Span{}, api.Span{}, false},
	} {
		if s, ok := Meet(c.a, c.b); s != c.want || ok != c.ok {
			t.Errorf("Meet(%v, %v) = %v, %t", c.a, c.b, s, ok)
		}
	}
}

// Sp1: all pairs of spans with ends at edges.
func TestMeetByDefinition(t *testing.T) {
	all := pairs(ends())
	for _, a := range all {
		for _, b := range all {
			checkMeet(t, a, b)
		}
	}
}

func checkMeet(t *testing.T, a, b api.Span) {
	t.Helper()
	one, other := []api.Span{a}, []api.Span{b}
	meant := meantCover(marks(one, other), func(at int) bool { return meantHas(one, at) && meantHas(other, at) })
	var want api.Span
	if len(meant) > 0 {
		want = meant[0]
	}
	if s, ok := Meet(a, b); s != want || ok != (len(meant) > 0) {
		t.Errorf("Meet(%v, %v) = %v, %t; meant: %v", a, b, s, ok, meant)
	}
}

// Sp2: spans that meet, touch, lie within each other, are there twice, or in any order; wrong ones among them; none at all.
func TestCover(t *testing.T) {
	for _, c := range []struct{ l, want []api.Span }{
		{nil, nil},
		{[]api.Span{}, nil},
		{[]api.Span{{From: 1, To: 3}, {From: 3, To: 5}}, []api.Span{{From: 1, To: 5}}},
		{[]api.Span{{From: 3, To: 5}, {From: 1, To: 3}}, []api.Span{{From: 1, To: 5}}},
		{[]api.Span{{From: 1, To: 3}, {From: 4, To: 5}}, []api.Span{{From: 1, To: 3}, {From: 4, To: 5}}},
		{[]api.Span{{From: 4, To: 5}, {From: 1, To: 3}}, []api.Span{{From: 1, To: 3}, {From: 4, To: 5}}},
		{[]api.Span{{From: 1, To: 9}, {From: 2, To: 3}, {From: 5, To: 6}}, []api.Span{{From: 1, To: 9}}},
		{[]api.Span{{From: 1, To: 9}, {From: 2, To: 3}, {From: 9, To: 10}}, []api.Span{{From: 1, To: 10}}},
		{[]api.Span{{From: 1, To: 3}, {From: 1, To: 5}, {From: 1, To: 2}}, []api.Span{{From: 1, To: 5}}},
		{[]api.Span{{From: 1, To: 3}, {From: 1, To: 3}}, []api.Span{{From: 1, To: 3}}},
		{[]api.Span{{From: 1, To: 4}, {From: 2, To: 6}, {From: 8, To: 9}, {From: 6, To: 7}}, []api.Span{{From: 1, To: 7}, {From: 8, To: 9}}},
		{[]api.Span{{From: never - 1, To: never}, {From: 0, To: 1}}, []api.Span{{From: 0, To: 1}, {From: never - 1, To: never}}},
		{[]api.Span{{From: 0, To: never - 1}, {From: never - 1, To: never}}, []api.Span{{From: 0, To: never}}},
		{[]api.Span{{From: 2, To: 2}, {From: 5, To: 4}, {From: -1, To: 3}, {From: 0, To: never + 1}, {From: math.MinInt, To: math.MaxInt}}, nil},
		{[]api.Span{{From: 1, To: 2}, {From: 2, To: 2}, {From: -1, To: 9}, {From: 3, To: 4}, {From: 4, To: 1}, {From: 0, To: never + 1}}, []api.Span{{From: 1, To: 2}, {From: 3, To: 4}}},
	} {
		if got := Cover(c.l); !slices.Equal(got, c.want) {
			t.Errorf("Cover(%v) = %v; want %v", c.l, got, c.want)
		}
	}
}

// Sp2: what is cut off ahead, behind, within and whole; what only touches, or may not be, cuts nothing off.
func TestLess(t *testing.T) {
	all := []api.Span{{From: 0, To: 10}}
	for _, c := range []struct{ l, m, want []api.Span }{
		{nil, nil, nil},
		{nil, all, nil},
		{[]api.Span{{From: 5, To: 7}, {From: 1, To: 5}}, nil, []api.Span{{From: 1, To: 7}}},
		{all, []api.Span{{From: 2, To: 4}}, []api.Span{{From: 0, To: 2}, {From: 4, To: 10}}},
		{all, []api.Span{{From: 0, To: 4}}, []api.Span{{From: 4, To: 10}}},
		{all, []api.Span{{From: 4, To: 10}}, []api.Span{{From: 0, To: 4}}},
		{all, []api.Span{{From: 4, To: 20}}, []api.Span{{From: 0, To: 4}}},
		{all, all, nil},
		{all, []api.Span{{From: 0, To: never}}, nil},
		{all, []api.Span{{From: 10, To: 20}}, all},
		{[]api.Span{{From: 5, To: 7}}, []api.Span{{From: 2, To: 5}, {From: 7, To: 9}}, []api.Span{{From: 5, To: 7}}},
		{[]api.Span{{From: 5, To: 7}}, []api.Span{{From: 2, To: 6}}, []api.Span{{From: 6, To: 7}}},
		{all, []api.Span{{From: 6, To: 8}, {From: 1, To: 2}, {From: 3, To: 4}}, []api.Span{{From: 0, To: 1}, {From: 2, To: 3}, {From: 4, To: 6}, {From: 8, To: 10}}},
		{all, []api.Span{{From: 3, To: 4}, {From: 1, To: 3}, {From: 2, To: 6}}, []api.Span{{From: 0, To: 1}, {From: 6, To: 10}}},
		{[]api.Span{{From: 0, To: 3}, {From: 5, To: 8}, {From: 9, To: 12}}, []api.Span{{From: 2, To: 10}}, []api.Span{{From: 0, To: 2}, {From: 10, To: 12}}},
		{[]api.Span{{From: 0, To: 3}, {From: 5, To: 8}}, []api.Span{{From: 1, To: 2}, {From: 3, To: 5}, {From: 6, To: 7}}, []api.Span{{From: 0, To: 1}, {From: 2, To: 3}, {From: 5, To: 6}, {From: 7, To: 8}}},
		{all, []api.Span{{From: 4, To: 4}, {From: 6, To: 5}, {From: -1, To: 5}, {From: 0, To: never + 1}}, all},
		{[]api.Span{{From: 4, To: 4}, {From: -1, To: 5}, {From: 0, To: never + 1}}, nil, nil},
		{[]api.Span{{From: 0, To: never}}, []api.Span{{From: 1, To: never - 1}}, []api.Span{{From: 0, To: 1}, {From: never - 1, To: never}}},
	} {
		if got := Less(c.l, c.m); !slices.Equal(got, c.want) {
			t.Errorf("Less(%v, %v) = %v; want %v", c.l, c.m, got, c.want)
		}
	}
}

// Sp1: times that several have count once, those of what may not be not at all.
func TestTotal(t *testing.T) {
	for _, c := range []struct {
		l    []api.Span
		want int
	}{
		{nil, 0}, {[]api.Span{}, 0}, {[]api.Span{{}}, 0}, {[]api.Span{{From: 2, To: 5}}, 3},
		{[]api.Span{{From: 2, To: 5}, {From: 2, To: 5}}, 3}, {[]api.Span{{From: 4, To: 9}, {From: 2, To: 5}}, 7}, {[]api.Span{{From: 5, To: 9}, {From: 2, To: 5}}, 7},
		{[]api.Span{{From: 7, To: 9}, {From: 2, To: 5}}, 5}, {[]api.Span{{From: 0, To: never}, {From: 0, To: never}, {From: 1, To: never}}, never},
		{[]api.Span{{From: 2, To: 5}, {From: 5, To: 2}, {From: -4, To: 9}, {From: 0, To: never + 1}, {From: math.MinInt, To: math.MaxInt}}, 3},
	} {
		if n := Total(c.l); n != c.want {
			t.Errorf("Total(%v) = %d; want %d", c.l, n, c.want)
		}
	}
}

// Sp2: all threes of spans with ends near 0, and near Never, wrong ones among them.
func TestCoverByDefinition(t *testing.T) {
	for _, ends := range [][]int{{-1, 0, 1, 2, 3}, {0, 1, 2, 3, 4}, {0, never - 2, never - 1, never, never + 1}} {
		all := pairs(ends)
		for _, a := range all {
			checkCover(t, []api.Span{a})
			for _, b := range all {
				checkCover(t, []api.Span{a, b})
				for _, c := range all {
					checkCover(t, []api.Span{a, b, c})
				}
			}
		}
	}
}

// Sp2, Sp3: all pairs of covers out of eight times, near 0 and near Never, each also against spans with ends at edges.
func TestLessByDefinition(t *testing.T) {
	for _, base := range []int{0, never - 8} {
		for a := range 256 {
			for b := range 256 {
				l, m := single(base, a), single(base, b)
				checkLess(t, l, m)
				checkFollows(t, l, m)
			}
		}
	}
	edges := pairs([]int{-1, 0, 1, 7, never - 1, never, never + 1})
	for _, a := range edges {
		for _, b := range edges {
			for _, c := range edges {
				checkLess(t, []api.Span{a}, []api.Span{b, c})
				checkLess(t, []api.Span{a, b}, []api.Span{c})
				checkFollows(t, []api.Span{a, b}, []api.Span{c})
			}
		}
	}
}

// single is those of eight times from a base on that a set has, each as a span of its own, the last one first.
func single(base, set int) []api.Span {
	var l []api.Span
	for at := 7; at >= 0; at-- {
		if set>>at&1 == 1 {
			l = append(l, api.Span{From: base + at, To: base + at + 1})
		}
	}
	return l
}

// R3: an answer is new memory, also where it is the same as what was handed over, or a part of it.
func TestNewMemory(t *testing.T) {
	l := []api.Span{{From: 1, To: 2}, {From: 4, To: 6}}
	for _, answer := range [][]api.Span{Cover(l), Less(l, nil), Less(l, []api.Span{{From: 9, To: 10}}), Cover(l[:1]), Less(l[:1], nil)} {
		for at := range answer {
			answer[at] = api.Span{From: 7, To: 8}
		}
		_ = append(answer, api.Span{From: 7, To: 8})
		if l[0] != (api.Span{From: 1, To: 2}) || l[1] != (api.Span{From: 4, To: 6}) {
			t.Fatalf("what an answer was turned into has turned what was handed over into %v", l)
		}
	}
}

// Sp2: many spans, the last one first: each second time, and all of them less each third one.
func TestMany(t *testing.T) {
	const many = 1 << 17
	var seconds, thirds []api.Span
	for at := many - 1; at >= 0; at-- {
		if at%2 == 0 {
			seconds = append(seconds, api.Span{From: at, To: at + 1})
		}
		if at%3 == 0 {
			thirds = append(thirds, api.Span{From: at, To: at + 1})
		}
	}
	if n := Total(seconds); n != many/2 {
		t.Errorf("each second of %d: %d", many, n)
	}
	if c := Less(seconds, thirds); len(c) != many/2-(many+5)/6 || !isCover(c) {
		t.Errorf("each second of %d less each third: %d", many, len(c))
	}
	whole := []api.Span{{From: 0, To: many}}
	if c := Less(whole, seconds); len(c) != many/2 || !isCover(c) {
		t.Errorf("%d less each second: %d", many, len(c))
	}
	if c := Less(seconds, whole); len(c) != 0 {
		t.Errorf("each second of %d less all: %d", many, len(c))
	}
}

// Sp1 to Sp3 of any spans: go test -run xxx -fuzz=FuzzSpans ./span.
func FuzzSpans(f *testing.F) {
	f.Add([]byte{1, 3, 3, 5}, []byte{2, 4})
	f.Add([]byte{16, 250, 15, 16}, []byte{255, 0, 250, 251})
	f.Fuzz(func(t *testing.T, some, others []byte) {
		l, m := read(some), read(others)
		checkCover(t, l)
		checkLess(t, l, m)
		checkFollows(t, l, m)
		for at := range min(len(l), len(m)) {
			checkMeet(t, l[at], m[at])
		}
	})
}

// read takes two bytes for a span's ends: most for those near 0, some for those near Never, and beyond.
func read(some []byte) []api.Span {
	var l []api.Span
	for at := 0; at+1 < len(some) && at < 64; at += 2 {
		l = append(l, api.Span{From: end(some[at]), To: end(some[at+1])})
	}
	return l
}

func end(b byte) int {
	switch {
	case b >= 254:
		return []int{math.MinInt, math.MaxInt}[b-254]
	case b >= 200:
		return never + int(b) - 250
	default:
		return int(b) - 2
	}
}
