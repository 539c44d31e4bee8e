package twin

import (
	"math"
	"slices"
	"testing"

	"stint/api"
)

const (
	most     = 32
	greatest = 256
)

// noWidths and noRooms are numbers that are none.
func noWidths() []int {
	return []int{math.MinInt, math.MinInt + 1, -greatest, -1, 0, greatest + 1, greatest + 2, 1 << 32, math.MaxInt}
}

func noRooms() []int {
	return []int{math.MinInt, math.MinInt + 1, -greatest, -1, greatest + 1, greatest + 2, 1 << 32, math.MaxInt}
}

// short and long are an item of a width.
func short(width int) api.Item { return api.Item{Width: width} }

func long(width int) api.Item { return api.Item{Width: width, Long: true} }

// both are a short and a long item of each width.
func both(widths ...int) []api.Item {
	var l []api.Item
	for _, width := range widths {
		l = append(l, short(width), long(width))
	}
	return l
}

// alike is so many times one item.
func alike(many int, x api.Item) []api.Item {
	return slices.Repeat([]api.Item{x}, many)
}

// upto is the numbers from 0 on, ahead of one.
func upto(many int) []int {
	var l []int
	for n := range many {
		l = append(l, n)
	}
	return l
}

// lists are all lists of so many out of these at most.
func lists[T any](some []T, longest int) [][]T {
	l := [][]T{nil}
	last := l
	for range longest {
		var longer [][]T
		for _, shorter := range last {
			for _, x := range some {
				longer = append(longer, append(slices.Clone(shorter), x))
			}
		}
		l = append(l, longer...)
		last = longer
	}
	return l
}

// mixed are many items that follow a rule, of which no two lists are the same.
func mixed(many, seed, widest int) []api.Item {
	var l []api.Item
	x := uint64(seed)*2654435761 + 12345
	for range many {
		x ^= x << 13
		x ^= x >> 7
		x ^= x << 17
		l = append(l, api.Item{Width: 1 + int(x%uint64(widest)), Long: x>>40%2 == 1})
	}
	return l
}

// row is places, rising, and what is together of them.
type row struct {
	places    []int
	all, long int
}

// rows are all rows of places of items, those that have an earlier place first.
func rows(l []api.Item) []row {
	var all []row
	for bits := 1<<len(l) - 1; bits >= 0; bits-- {
		var r row
		for n, x := range l {
			// Place 0 is the highest bit, so that a greater number is an earlier row.
			if bits&(1<<(len(l)-1-n)) == 0 {
				continue
			}
			r.places = append(r.places, n)
			r.all += x.Width
			if x.Long {
				r.long += x.Width
			}
		}
		all = append(all, r)
	}
	return all
}

// meantBest is the fullest choice by definition: all rows are looked at, and of those that are as full the earliest one stays.
func meantBest(all []row, room, long int) row {
	best := row{}
	for _, r := range all {
		if r.all <= room && r.long <= long && r.all > best.all {
			best = r
		}
	}
	return best
}

// same tells what is wrong with Best of items that are few enough to look at all rows, of which these are all.
func same(t *testing.T, l []api.Item, all []row, room, long int) {
	t.Helper()
	want := meantBest(all, room, long)
	places, n, e := Best(l, room, long)
	if e != api.OK || n != want.all || !slices.Equal(places, want.places) {
		t.Fatalf("Best(%v, %d, %d) = %v, %d, %d; meant: %v", l, room, long, places, n, e, want)
	}
}

// sameFits tells what is wrong with Fits of all rows of items.
func sameFits(t *testing.T, l []api.Item, all []row, room, long int) {
	t.Helper()
	for _, r := range all {
		if want := r.all <= room && r.long <= long; Fits(l, r.places, room, long) != want {
			t.Fatalf("Fits(%v, %v, %d, %d): %t", l, r.places, room, long, !want)
		}
	}
}

// pairs is which sums there are, beside what of them is of long ones: for items that are too many to look at all rows.
type pairs [greatest + 1][greatest + 1]bool

// behindAll is the pairs of each place on, and of the end.
func behindAll(l []api.Item) []pairs {
	all := make([]pairs, len(l)+1)
	all[len(l)][0][0] = true
	for n := len(l) - 1; n >= 0; n-- {
		all[n] = all[n+1]
		part := 0
		if l[n].Long {
			part = l[n].Width
		}
		for sum := l[n].Width; sum <= greatest; sum++ {
			for some := part; some <= sum; some++ {
				if all[n+1][sum-l[n].Width][some-part] {
					all[n][sum][some] = true
				}
			}
		}
	}
	return all
}

// has tells whether one is a sum, and so much of it, or less, is of long ones.
func has(p *pairs, sum, long int) bool {
	return 0 <= sum && 0 <= long && slices.Contains(p[sum][:long+1], true)
}

// sound tells what is wrong with Best of any items that may be, of which these are the pairs: no choice is fuller, and none as full has an earlier place.
func sound(t *testing.T, l []api.Item, all []pairs, room, long int) {
	t.Helper()
	places, n, e := Best(l, room, long)
	if e != api.OK || !Fits(l, places, room, long) {
		t.Fatalf("Best(%v, %d, %d) = %v, %d, %d", l, room, long, places, n, e)
	}
	total, some, ok := Sums(l, places)
	if !ok || total != n || n > room || some > long {
		t.Fatalf("Best(%v, %d, %d) = %v, %d; Sums: %d, %d, %t", l, room, long, places, n, total, some, ok)
	}
	for k := n + 1; k <= room; k++ {
		if has(&all[0], k, long) {
			t.Fatalf("Best(%v, %d, %d): %d; a choice has %d", l, room, long, n, k)
		}
	}
	left, leftLong := n, long
	for k, x := range l {
		part := 0
		if x.Long {
			part = x.Width
		}
		if slices.Contains(places, k) {
			left, leftLong = left-x.Width, leftLong-part
		} else if has(&all[k+1], left-x.Width, leftLong-part) {
			t.Fatalf("Best(%v, %d, %d) = %v: one has place %d", l, room, long, places, k)
		}
	}
}

// asOthers tells what is wrong with Best where a long room is as great as the room.
func asOthers(t *testing.T, l []api.Item, room, long int) {
	t.Helper()
	plain := slices.Clone(l)
	for n := range plain {
		plain[n].Long = false
	}
	want, wantN, _ := Best(plain, room, 0)
	places, n, e := Best(l, room, long)
	if e != api.OK || n != wantN || !slices.Equal(places, want) {
		t.Fatalf("Best(%v, %d, %d) = %v, %d, %d; without long ones: %v, %d", l, room, long, places, n, e, want, wantN)
	}
}

// wrong asks for ErrArg, or false, and nothing beside it.
func wrong(t *testing.T, l []api.Item, places []int, room, long int) {
	t.Helper()
	if got, n, e := Best(l, room, long); len(got) != 0 || n != 0 || e != api.ErrArg {
		t.Errorf("Best(%v, %d, %d) = %v, %d, %d", l, room, long, got, n, e)
	}
	if Fits(l, places, room, long) {
		t.Errorf("Fits(%v, %v, %d, %d)", l, places, room, long)
	}
}

// noSums asks for 0, 0, false.
func noSums(t *testing.T, l []api.Item, places []int) {
	t.Helper()
	if all, some, ok := Sums(l, places); all != 0 || some != 0 || ok {
		t.Errorf("Sums(%v, %v) = %d, %d, %t", l, places, all, some, ok)
	}
}

// Tw1: a few by hand: what the long room does not hold is not of it, though the room would; and of those as full the earliest places.
func TestBest(t *testing.T) {
	pair := []api.Item{long(3), short(3)}
	three := []api.Item{long(3), short(5), long(2)}
	for _, c := range []struct {
		l          []api.Item
		room, long int
		places     []int
		n          int
	}{
		{pair, 6, 2, []int{1}, 3}, {pair, 6, 3, []int{0, 1}, 6}, {pair, 5, 3, []int{0}, 3}, {pair, 3, 3, []int{0}, 3}, {pair, 3, 2, []int{1}, 3}, {pair, 2, 3, nil, 0}, {pair, 6, 0, []int{1}, 3}, {pair, 0, 6, nil, 0}, {pair, 0, 0, nil, 0}, {pair, greatest, greatest, []int{0, 1}, 6},
		{three, 10, 5, []int{0, 1, 2}, 10}, {three, 10, 4, []int{0, 1}, 8}, {three, 10, 3, []int{0, 1}, 8}, {three, 10, 2, []int{1, 2}, 7}, {three, 10, 1, []int{1}, 5}, {three, 7, 5, []int{1, 2}, 7}, {three, 5, 5, []int{0, 2}, 5}, {three, 5, 4, []int{1}, 5}, {three, 4, 5, []int{0}, 3}, {three, 4, 2, []int{2}, 2}, {three, 4, 1, nil, 0},
		{nil, 0, 0, nil, 0}, {nil, greatest, greatest, nil, 0}, {[]api.Item{}, 5, 5, nil, 0},
		{[]api.Item{long(4), short(2), short(2)}, 4, 4, []int{0}, 4}, {[]api.Item{long(4), short(2), short(2)}, 4, 3, []int{1, 2}, 4}, {[]api.Item{long(2), long(2), short(2)}, 4, 4, []int{0, 1}, 4}, {[]api.Item{long(2), long(2), short(2)}, 4, 3, []int{0, 2}, 4}, {[]api.Item{long(2), long(2), short(2)}, 4, 1, []int{2}, 2},
		{[]api.Item{long(3), long(2), short(4)}, 7, 3, []int{0, 2}, 7}, {[]api.Item{long(3), long(2), short(4)}, 7, 2, []int{1, 2}, 6}, {[]api.Item{long(1), short(4), long(4)}, 5, 4, []int{0, 1}, 5}, {[]api.Item{long(1), short(4), long(4)}, 5, 5, []int{0, 1}, 5}, {[]api.Item{long(1), long(4), short(4)}, 5, 5, []int{0, 1}, 5}, {[]api.Item{long(1), long(4), short(4)}, 5, 4, []int{0, 2}, 5},
		{[]api.Item{long(greatest)}, greatest, greatest, []int{0}, greatest}, {[]api.Item{long(greatest)}, greatest, greatest - 1, nil, 0}, {[]api.Item{long(greatest)}, greatest - 1, greatest, nil, 0}, {[]api.Item{short(greatest)}, greatest, 0, []int{0}, greatest}, {[]api.Item{short(greatest)}, greatest - 1, greatest, nil, 0}, {[]api.Item{long(255), short(1)}, greatest, 255, []int{0, 1}, greatest}, {[]api.Item{long(255), short(1)}, greatest, 254, []int{1}, 1},
		{alike(most, short(8)), greatest, 0, upto(most), greatest}, {alike(most, long(8)), greatest, greatest, upto(most), greatest}, {alike(most, long(8)), greatest, greatest - 1, upto(most - 1), greatest - 8}, {alike(most, long(8)), greatest, 0, nil, 0}, {append(alike(most-1, long(9)), short(1)), greatest, 9, []int{0, 31}, 10}, {append(alike(most-1, long(greatest)), short(greatest)), greatest, 255, []int{31}, greatest},
	} {
		places, n, e := Best(c.l, c.room, c.long)
		if e != api.OK || n != c.n || !slices.Equal(places, c.places) {
			t.Errorf("Best(%v, %d, %d) = %v, %d, %d; want %v, %d", c.l, c.room, c.long, places, n, e, c.places, c.n)
		}
		sound(t, c.l, behindAll(c.l), c.room, c.long)
	}
}

// Tw1: a few by hand: there is no room here, so all places may be.
func TestSums(t *testing.T) {
	three := []api.Item{long(3), short(5), long(2)}
	for _, c := range []struct {
		l         []api.Item
		places    []int
		all, long int
	}{
		{three, []int{0, 1, 2}, 10, 5}, {three, []int{0, 1}, 8, 3}, {three, []int{0, 2}, 5, 5}, {three, []int{1, 2}, 7, 2}, {three, []int{0}, 3, 3}, {three, []int{1}, 5, 0}, {three, []int{2}, 2, 2}, {three, nil, 0, 0}, {three, []int{}, 0, 0}, {nil, nil, 0, 0}, {[]api.Item{}, []int{}, 0, 0},
		{alike(most, long(greatest)), upto(most), 8192, 8192}, {alike(most, short(greatest)), upto(most), 8192, 0}, {alike(most, long(1)), []int{0, 31}, 2, 2}, {both(greatest, 1), upto(4), 514, 257},
	} {
		if all, some, ok := Sums(c.l, c.places); all != c.all || some != c.long || !ok {
			t.Errorf("Sums(%v, %v) = %d, %d, %t; want %d, %d", c.l, c.places, all, some, ok, c.all, c.long)
		}
	}
	for _, places := range [][]int{{3}, {-1}, {0, 3}, {-1, 0}, {math.MinInt, 1}, {1, math.MaxInt}, {1, 1}, {0, 0}, {2, 1}, {0, 2, 1}, {0, 1, 2, 2}, {0, 1, 2, 0}, {1, 0, 2}, {0, 1, 2, 3}} {
		noSums(t, three, places)
		if Fits(three, places, greatest, greatest) {
			t.Errorf("Fits(%v, %v)", three, places)
		}
	}
	for _, places := range [][]int{{0}, {-1}, {0, 1}} {
		noSums(t, nil, places)
	}
	noSums(t, alike(most, long(1)), []int{most})
	noSums(t, alike(most, long(1)), upto(most+1))
}

// Tw1: a few by hand: both rooms to the brim, and one too few in each of them.
func TestFits(t *testing.T) {
	three := []api.Item{long(3), short(5), long(2)}
	for _, c := range []struct {
		places     []int
		room, long int
		ok         bool
	}{
		{[]int{0, 1, 2}, 10, 5, true}, {[]int{0, 1, 2}, 9, 5, false}, {[]int{0, 1, 2}, 10, 4, false}, {[]int{0, 1, 2}, greatest, greatest, true}, {[]int{0, 1, 2}, greatest, 4, false}, {[]int{0, 1, 2}, 9, greatest, false},
		{[]int{1}, 5, 0, true}, {[]int{1}, 4, 0, false}, {[]int{1}, 4, greatest, false}, {[]int{0}, 3, 3, true}, {[]int{0}, 3, 2, false}, {[]int{0}, 2, 3, false}, {[]int{0, 2}, 5, 5, true}, {[]int{0, 2}, 5, 4, false}, {nil, 0, 0, true}, {[]int{}, 0, 0, true}, {nil, greatest, greatest, true},
	} {
		if Fits(three, c.places, c.room, c.long) != c.ok {
			t.Errorf("Fits(%v, %v, %d, %d): %t", three, c.places, c.room, c.long, !c.ok)
		}
	}
	if !Fits(nil, nil, 0, 0) || Fits(nil, []int{0}, greatest, greatest) {
		t.Error("Fits of no items")
	}
	full := alike(most, long(8))
	if !Fits(full, upto(most), greatest, greatest) || Fits(full, upto(most), greatest, greatest-1) || Fits(full, upto(most), greatest-1, greatest) {
		t.Error("Fits of as many items as may be")
	}
}

// Tw1: all rows of places of a few items, places that are none among them.
func TestSumsByDefinition(t *testing.T) {
	for _, l := range [][]api.Item{nil, {long(7)}, {short(7), long(1)}, {long(7), short(1), long(greatest)}, {long(7), short(7), long(7), short(2)}} {
		all := rows(l)
		for _, places := range lists([]int{-1, 0, 1, 2, 3, 4}, 5) {
			n := slices.IndexFunc(all, func(r row) bool { return slices.Equal(r.places, places) })
			if n < 0 {
				noSums(t, l, places)
				if Fits(l, places, greatest, greatest) {
					t.Fatalf("Fits(%v, %v)", l, places)
				}
				continue
			}
			if sum, some, ok := Sums(l, places); sum != all[n].all || some != all[n].long || !ok {
				t.Fatalf("Sums(%v, %v) = %d, %d, %t; meant: %v", l, places, sum, some, ok, all[n])
			}
		}
	}
}

// Tw1: each width that may not be, long or not, at each place of lists of any length, also where a room is nothing.
func TestNoWidths(t *testing.T) {
	for _, x := range both(noWidths()...) {
		for _, many := range []int{1, 2, 5, most - 1, most} {
			for n := range many {
				l := alike(many, long(3))
				l[n] = x
				for _, places := range [][]int{nil, {0}, {n}, {many - 1}} {
					noSums(t, l, places)
					for _, rooms := range [][2]int{{0, 0}, {0, greatest}, {greatest, 0}, {greatest, greatest}, {7, 3}} {
						wrong(t, l, places, rooms[0], rooms[1])
					}
				}
			}
		}
	}
}

// Tw1: each room, and each long room, that may not be, beside items that may be, and that may not; the least and the greatest one may be.
func TestNoRooms(t *testing.T) {
	some := [][]api.Item{nil, {short(1)}, {long(3), short(5), long(2)}, both(greatest), both(0), both(greatest + 1), alike(most, long(4)), alike(most+1, short(4))}
	for _, l := range some {
		for _, room := range noRooms() {
			for _, other := range append(noRooms(), 0, 1, 8, greatest) {
				wrong(t, l, nil, room, other)
				wrong(t, l, nil, other, room)
				wrong(t, l, []int{0}, room, other)
				wrong(t, l, []int{0}, other, room)
			}
		}
	}
	for _, l := range some[:4] {
		all := behindAll(l)
		for _, rooms := range [][2]int{{0, 0}, {0, greatest}, {greatest, 0}, {greatest, greatest}} {
			sound(t, l, all, rooms[0], rooms[1])
		}
	}
}

// Tw1: 32 may be, 33 and more not.
func TestTooMany(t *testing.T) {
	for _, x := range both(1, 2, 8, greatest) {
		for _, many := range []int{most - 1, most} {
			l := alike(many, x)
			all := behindAll(l)
			for _, rooms := range [][2]int{{0, 0}, {1, 1}, {255, 8}, {greatest, greatest}} {
				sound(t, l, all, rooms[0], rooms[1])
			}
			if sum, _, ok := Sums(l, upto(many)); sum != many*x.Width || !ok {
				t.Errorf("Sums(%v): %d, %t", l, sum, ok)
			}
		}
		for _, many := range []int{most + 1, most + 2, 2 * most, 1 << 12} {
			l := alike(many, x)
			for _, places := range [][]int{nil, {0}, {most}} {
				wrong(t, l, places, 0, 0)
				wrong(t, l, places, greatest, greatest)
				noSums(t, l, places)
			}
		}
	}
}

// Tw1: all lists of four small items at most, in all rooms up to more than all of them.
func TestSmallByDefinition(t *testing.T) {
	for _, l := range lists(both(1, 2, 3, 4), 4) {
		all := rows(l)
		for room := range 18 {
			for some := range 18 {
				same(t, l, all, room, some)
			}
		}
	}
	for _, l := range lists(both(1, 2, 3), 3) {
		all := rows(l)
		for room := range 11 {
			for some := range 11 {
				sameFits(t, l, all, room, some)
			}
		}
	}
}

// Tw1: all lists of three items at edges at most, in all rooms at edges.
func TestEdgesByDefinition(t *testing.T) {
	rooms := []int{0, 1, 2, 3, 126, 127, 128, 129, 130, 253, 254, 255, 256}
	for _, l := range lists(both(1, 2, 127, 128, 129, 254, 255, 256), 3) {
		all := rows(l)
		for _, room := range rooms {
			for _, some := range rooms {
				same(t, l, all, room, some)
			}
		}
		sameFits(t, l, all, greatest, 128)
		sameFits(t, l, all, 129, 127)
	}
}

// Tw1: lists that are longer, of which still all rows are looked at.
func TestLongByDefinition(t *testing.T) {
	for seed := range 30 {
		for many := 5; many <= 11; many++ {
			for _, widest := range []int{3, 12, 60, greatest} {
				l := mixed(many, seed, widest)
				all := rows(l)
				for n := range 6 {
					room, some := (seed*37+n*101)%(greatest+1), (seed*53+n*29)%(greatest+1)
					same(t, l, all, room, some)
					same(t, l, all, some, some/(n+1))
				}
				sameFits(t, l, all, seed*37%(greatest+1), seed*17%(greatest+1))
			}
		}
	}
}

// Tw2: no choice is fuller, in many pairs of rooms, of as many items as may be; of those as full the earliest places.
func TestFullest(t *testing.T) {
	for seed := range 6 {
		for _, many := range []int{1, 3, 8, 20, most - 1, most} {
			for _, widest := range []int{2, 9, 70, greatest} {
				l := mixed(many, seed, widest)
				all := behindAll(l)
				for room := seed; room <= greatest; room += 17 {
					for some := 5 - seed; some <= greatest; some += 23 {
						sound(t, l, all, room, some)
					}
				}
			}
		}
	}
}

// Tw1: of choices that are as full the earliest places, also where the same items are there many times.
func TestEarliest(t *testing.T) {
	for _, some := range [][]api.Item{both(1), both(5, 3), {long(2), short(2), short(1)}, {short(1), long(3), long(2)}, {long(4), short(6), long(6), short(4)}, {long(100), short(56), long(28)}, {short(100), long(100), long(56)}, {long(85), short(86)}, {long(64), short(128), short(32), long(32)}} {
		for _, many := range []int{1, 3, 8} {
			l := slices.Repeat(some, many)
			all := behindAll(l)
			for room := 0; room <= greatest; room += 5 {
				for _, part := range []int{0, 1, 2, 3, room / 4, room / 2, max(room-1, 0), room, greatest} {
					sound(t, l, all, room, part)
				}
			}
		}
	}
}

// Tw2: with a long room that is as great as the room, or greater, the long ones count as the others; without a long one the long room does not count.
func TestLongAsOthers(t *testing.T) {
	for seed := range 20 {
		for _, many := range []int{0, 1, 6, 17, most} {
			for _, widest := range []int{2, 9, 70, greatest} {
				l := mixed(many, seed, widest)
				for room := seed % 7; room <= greatest; room += 7 {
					asOthers(t, l, room, room)
					asOthers(t, l, room, min(room+1, greatest))
					asOthers(t, l, room, greatest)
				}
				for n := range l {
					l[n].Long = false
				}
				for room := 0; room <= greatest; room += 9 {
					asOthers(t, l, room, seed)
				}
			}
		}
	}
}

// Tw2: where all are long, the lesser one of both rooms is the room.
func TestAllLong(t *testing.T) {
	for seed := range 10 {
		l := mixed(3*seed+2, seed, 40)
		for n := range l {
			l[n].Long = true
		}
		for a := 0; a <= greatest; a += 11 {
			for b := 0; b <= greatest; b += 13 {
				x, n, _ := Best(l, a, b)
				y, m, _ := Best(l, min(a, b), greatest)
				z, k, _ := Best(l, b, a)
				if n != m || n != k || !slices.Equal(x, y) || !slices.Equal(x, z) {
					t.Fatalf("Best(%v, %d, %d) = %v, %d; %v, %d; %v, %d", l, a, b, x, n, y, m, z, k)
				}
			}
		}
	}
}

// R3: nothing is written to what is handed in, and an answer is new memory.
func TestNewMemory(t *testing.T) {
	l, places := []api.Item{long(3), short(5), long(2), long(99), short(99)}, []int{1, 2, 98}
	wasL, wasPlaces := slices.Clone(l), slices.Clone(places)
	some, rises := l[:3], places[:2]
	first, n, _ := Best(some, 7, 2)
	all, part, _ := Sums(some, rises)
	if n != 7 || all != 7 || part != 2 || !Fits(some, rises, 7, 2) || !slices.Equal(l, wasL) || !slices.Equal(places, wasPlaces) {
		t.Errorf("turned: %v, %v", l, places)
	}
	for n := range first {
		first[n] = 50
	}
	_ = append(first, 51)
	kept, _, _ := Best(some, 7, 2)
	if !slices.Equal(kept, []int{1, 2}) || !slices.Equal(l, wasL) {
		t.Errorf("an answer is shared: %v, %v", kept, l)
	}
	some[1], some[2] = long(1), long(1)
	if !slices.Equal(kept, []int{1, 2}) {
		t.Errorf("an answer has turned: %v", kept)
	}
}

// Tw1, Tw2 of any items, rooms and places: go test -run xxx -fuzz=FuzzChoices ./twin.
func FuzzChoices(f *testing.F) {
	f.Add([]byte{2, 2}, uint64(1), 6, 2, []byte{1}, 0)
	f.Add([]byte{255, 0, 254}, uint64(5), 256, 255, []byte{0, 2}, 257)
	f.Add([]byte{3, 3, 3, 3, 3, 3, 3, 3, 3, 3, 3, 3}, uint64(0xaaa), 255, 256, []byte{255, 0}, math.MaxInt)
	f.Fuzz(func(t *testing.T, some []byte, longs uint64, room, part int, rises []byte, odd int) {
		var l []api.Item
		for n, b := range some {
			l = append(l, api.Item{Width: int(b) + 1, Long: longs>>(n%64)&1 == 1})
		}
		var places []int
		ok := len(l) <= most
		for n, b := range rises {
			place := int(int8(b))
			ok = ok && 0 <= place && place < len(l) && (n == 0 || places[n-1] < place)
			places = append(places, place)
		}
		if !ok {
			noSums(t, l, places)
		}
		if len(l) > most || room < 0 || room > greatest || part < 0 || part > greatest {
			wrong(t, l, places, room, part)
			return
		}
		sound(t, l, behindAll(l), room, part)
		if part >= room {
			asOthers(t, l, room, part)
		}
		if len(l) <= 10 {
			all := rows(l)
			same(t, l, all, room, part)
			sameFits(t, l, all, room, part)
		}
		if odd < 1 || odd > greatest {
			wrong(t, append(l, api.Item{Width: odd, Long: longs&1 == 1}), places, room, part)
		}
	})
}
