package subset

import (
	"math"
	"math/big"
	"slices"
	"testing"

	"stint/api"
)

const (
	most     = 64
	greatest = 256
)

// noWidths and noRooms are numbers that are none.
func noWidths() []int {
	return []int{math.MinInt, math.MinInt + 1, -greatest, -1, 0, greatest + 1, greatest + 2, 1 << 32, math.MaxInt}
}

func noRooms() []int {
	return []int{math.MinInt, math.MinInt + 1, -greatest, -1, greatest + 1, greatest + 2, 1 << 32, math.MaxInt}
}

// edges are widths, and rooms, at which something turns.
func edges() []int { return []int{1, 2, 127, 128, 129, 254, 255, 256} }

// alike is so many widths of one number.
func alike(many, width int) []int {
	return slices.Repeat([]int{width}, many)
}

// upto is the numbers from 0 on, ahead of one.
func upto(many int) []int {
	var l []int
	for n := range many {
		l = append(l, n)
	}
	return l
}

// lists are all lists of so many numbers out of these at most.
func lists(some []int, longest int) [][]int {
	l := [][]int{nil}
	last := l
	for range longest {
		var longer [][]int
		for _, shorter := range last {
			for _, x := range some {
				longer = append(longer, append(slices.Clone(shorter), x))
			}
		}
		l = append(l, longer...)
		last = longer
	}
	return l
}

// mixed are many widths that follow a rule, of which no two lists are the same.
func mixed(many, seed, widest int) []int {
	var l []int
	x := uint64(seed)*2654435761 + 12345
	for range many {
		x ^= x << 13
		x ^= x >> 7
		x ^= x << 17
		l = append(l, 1+int(x%uint64(widest)))
	}
	return l
}

// every is all rows of places, each row rising.
func every(many int) [][]int {
	var l [][]int
	for bits := range 1 << many {
		var places []int
		for n := range many {
			if bits&(1<<n) != 0 {
				places = append(places, n)
			}
		}
		l = append(l, places)
	}
	return l
}

// together is the widths of places together.
func together(widths, places []int) int {
	n := 0
	for _, place := range places {
		n += widths[place]
	}
	return n
}

// fuller tells by definition whether of two choices the first one is the fuller one.
func fuller(widths, a, b []int) bool {
	if x, y := together(widths, a), together(widths, b); x != y {
		return x > y
	}
	for n := range widths {
		if one, other := slices.Contains(a, n), slices.Contains(b, n); one != other {
			return one
		}
	}
	return false
}

// meantBest is the fullest choice by definition: all choices are looked at.
func meantBest(widths []int, room int) ([]int, int) {
	var best []int
	for _, places := range every(len(widths)) {
		if together(widths, places) <= room && fuller(widths, places, best) {
			best = places
		}
	}
	return best, together(widths, best)
}

// meantReach is which sums there are by definition: all rows of places are looked at.
func meantReach(widths []int, room int) []bool {
	l := make([]bool, room+1)
	for _, places := range every(len(widths)) {
		if n := together(widths, places); n <= room {
			l[n] = true
		}
	}
	return l
}

// sumsOf is which sums there are, as bits of a great number: for widths that are too many to look at all choices.
func sumsOf(widths []int) *big.Int {
	sums := big.NewInt(1)
	for _, width := range widths {
		sums.Or(sums, new(big.Int).Lsh(sums, uint(width)))
	}
	return sums
}

// same tells what is wrong with Best and Reach of widths that are few enough to look at all choices.
func same(t *testing.T, widths []int, room int) {
	t.Helper()
	places, n, e := Best(widths, room)
	want, wantN := meantBest(widths, room)
	if e != api.OK || n != wantN || !slices.Equal(places, want) {
		t.Fatalf("Best(%v, %d) = %v, %d, %d; meant: %v, %d", widths, room, places, n, e, want, wantN)
	}
	sums, e := Reach(widths, room)
	if wantSums := meantReach(widths, room); e != api.OK || !slices.Equal(sums, wantSums) {
		t.Fatalf("Reach(%v, %d) = %v, %d; meant: %v", widths, room, sums, e, wantSums)
	}
}

// sound tells what is wrong with Best and Reach of any widths that may be: no choice is fuller, and none as full has an earlier place.
func sound(t *testing.T, widths []int, room int) {
	t.Helper()
	places, n, e := Best(widths, room)
	if e != api.OK || n > room {
		t.Fatalf("Best(%v, %d) = %v, %d, %d", widths, room, places, n, e)
	}
	if total, ok := Total(widths, places); !ok || total != n {
		t.Fatalf("Best(%v, %d) = %v, %d; Total: %d, %t", widths, room, places, n, total, ok)
	}
	sums, all := make([]bool, room+1), sumsOf(widths)
	for k := range sums {
		sums[k] = all.Bit(k) == 1
		if sums[k] && k > n {
			t.Fatalf("Best(%v, %d): %d; a choice has %d", widths, room, n, k)
		}
	}
	if l, e := Reach(widths, room); e != api.OK || !slices.Equal(l, sums) {
		t.Fatalf("Reach(%v, %d) = %v, %d; meant: %v", widths, room, l, e, sums)
	}
	left := n
	for k, width := range widths {
		if slices.Contains(places, k) {
			left -= width
		} else if left >= width && sumsOf(widths[k+1:]).Bit(left-width) == 1 {
			t.Fatalf("Best(%v, %d) = %v: one has place %d", widths, room, places, k)
		}
	}
}

// Su1: a few by hand: the first one fills the room, or not, and of those as full the earliest places.
func TestBest(t *testing.T) {
	for _, c := range []struct {
		widths []int
		room   int
		places []int
		n      int
	}{
		{[]int{3, 5, 2}, 7, []int{1, 2}, 7}, {[]int{3, 5, 2}, 10, []int{0, 1, 2}, 10}, {[]int{3, 5, 2}, 256, []int{0, 1, 2}, 10}, {[]int{3, 5, 2}, 9, []int{0, 1}, 8}, {[]int{3, 5, 2}, 6, []int{0, 2}, 5}, {[]int{3, 5, 2}, 4, []int{0}, 3}, {[]int{3, 5, 2}, 2, []int{2}, 2}, {[]int{3, 5, 2}, 1, nil, 0}, {[]int{3, 5, 2}, 0, nil, 0},
		{nil, 0, nil, 0}, {nil, 1, nil, 0}, {nil, greatest, nil, 0}, {[]int{}, 5, nil, 0},
		{[]int{2, 3, 5}, 5, []int{0, 1}, 5}, {[]int{5, 2, 3}, 5, []int{0}, 5}, {[]int{2, 5, 3}, 5, []int{0, 2}, 5}, {[]int{5, 5, 5}, 5, []int{0}, 5}, {[]int{5, 5, 5}, 11, []int{0, 1}, 10},
		{[]int{4, 3, 3}, 6, []int{1, 2}, 6}, {[]int{5, 4, 3, 3}, 6, []int{2, 3}, 6}, {[]int{1, 10, 9}, 10, []int{0, 2}, 10}, {[]int{10, 1, 9}, 10, []int{0}, 10}, {[]int{7, 1, 2, 3, 4}, 10, []int{0, 1, 2}, 10}, {[]int{6, 1, 2, 3, 4}, 10, []int{0, 1, 3}, 10}, {[]int{1, 2, 3, 4, 6}, 10, []int{0, 1, 2, 3}, 10}, {[]int{9, 3, 3, 3, 1}, 9, []int{0}, 9},
		{[]int{256}, 256, []int{0}, 256}, {[]int{256}, 255, nil, 0}, {[]int{1, 256}, 256, []int{1}, 256}, {[]int{1, 255}, 256, []int{0, 1}, 256}, {[]int{1, 256, 255}, 256, []int{0, 2}, 256}, {[]int{256, 256}, 256, []int{0}, 256}, {[]int{255, 256}, 255, []int{0}, 255},
		{alike(most, 1), greatest, upto(64), 64}, {alike(most, 1), 64, upto(64), 64}, {alike(most, 1), 63, upto(63), 63}, {alike(most, 4), greatest, upto(64), 256}, {alike(most, 5), greatest, upto(51), 255}, {alike(most, greatest), greatest, []int{0}, 256}, {alike(most, greatest), 255, nil, 0},
		{append(alike(63, 2), 1), 5, []int{0, 1, 63}, 5}, {append(alike(63, 255), 256), greatest, []int{63}, 256}, {append(alike(63, 255), 1), greatest, []int{0, 63}, 256},
	} {
		places, n, e := Best(c.widths, c.room)
		if e != api.OK || n != c.n || !slices.Equal(places, c.places) {
			t.Errorf("Best(%v, %d) = %v, %d, %d; want %v, %d", c.widths, c.room, places, n, e, c.places, c.n)
		}
		sound(t, c.widths, c.room)
	}
}

// Su1: a few by hand: from 0 to the room, both of them, and no place at all is 0.
func TestReach(t *testing.T) {
	for _, c := range []struct {
		widths []int
		room   int
		sums   []int
	}{
		{[]int{2, 3}, 5, []int{0, 2, 3, 5}}, {[]int{2, 3}, 4, []int{0, 2, 3}}, {[]int{2, 3}, 9, []int{0, 2, 3, 5}}, {[]int{2, 3}, 0, []int{0}}, {[]int{2, 3}, 1, []int{0}}, {[]int{2, 2, 2}, 7, []int{0, 2, 4, 6}}, {[]int{2}, 7, []int{0, 2}},
		{nil, 0, []int{0}}, {nil, 3, []int{0}}, {[]int{}, greatest, []int{0}}, {[]int{256}, 256, []int{0, 256}}, {[]int{256}, 255, []int{0}}, {[]int{1, 255}, 256, []int{0, 1, 255, 256}},
		{alike(most, 1), greatest, upto(65)}, {alike(most, 1), 63, upto(64)}, {alike(most, greatest), greatest, []int{0, 256}},
	} {
		want := make([]bool, c.room+1)
		for _, n := range c.sums {
			want[n] = true
		}
		if l, e := Reach(c.widths, c.room); e != api.OK || !slices.Equal(l, want) {
			t.Errorf("Reach(%v, %d) = %v, %d; want %v", c.widths, c.room, l, e, c.sums)
		}
	}
}

// Su1: a few by hand: there is no room here, so all places may be.
func TestTotal(t *testing.T) {
	for _, c := range []struct {
		widths, places []int
		n              int
		ok             bool
	}{
		{[]int{3, 5, 2}, []int{1, 2}, 7, true}, {[]int{3, 5, 2}, []int{0, 1, 2}, 10, true}, {[]int{3, 5, 2}, []int{0}, 3, true}, {[]int{3, 5, 2}, []int{2}, 2, true}, {[]int{3, 5, 2}, []int{0, 2}, 5, true}, {[]int{3, 5, 2}, nil, 0, true}, {[]int{3, 5, 2}, []int{}, 0, true}, {nil, nil, 0, true}, {[]int{}, []int{}, 0, true},
		{[]int{3, 5, 2}, []int{3}, 0, false}, {[]int{3, 5, 2}, []int{-1}, 0, false}, {[]int{3, 5, 2}, []int{0, 3}, 0, false}, {[]int{3, 5, 2}, []int{-1, 0}, 0, false}, {[]int{3, 5, 2}, []int{math.MinInt, 1}, 0, false}, {[]int{3, 5, 2}, []int{1, math.MaxInt}, 0, false}, {nil, []int{0}, 0, false}, {nil, []int{-1}, 0, false},
		{[]int{3, 5, 2}, []int{1, 1}, 0, false}, {[]int{3, 5, 2}, []int{0, 0}, 0, false}, {[]int{3, 5, 2}, []int{2, 1}, 0, false}, {[]int{3, 5, 2}, []int{0, 2, 1}, 0, false}, {[]int{3, 5, 2}, []int{0, 1, 2, 2}, 0, false}, {[]int{3, 5, 2}, []int{0, 1, 2, 0}, 0, false}, {[]int{3, 5, 2}, []int{1, 0, 2}, 0, false},
		{alike(most, greatest), upto(64), 64 * 256, true}, {alike(most, greatest), []int{0, 63}, 512, true}, {alike(most, greatest), upto(65), 0, false}, {alike(most, 1), []int{64}, 0, false}, {alike(most+1, 1), []int{64}, 0, false}, {alike(most+1, 1), []int{0}, 0, false}, {alike(most+1, 1), nil, 0, false}, {alike(1<<12, 1), nil, 0, false},
		{[]int{3, 0, 2}, []int{0}, 0, false}, {[]int{3, 257, 2}, nil, 0, false}, {[]int{0}, []int{0}, 0, false}, {[]int{0}, []int{-1}, 0, false}, {[]int{256, 256}, []int{0, 1}, 512, true},
	} {
		if n, ok := Total(c.widths, c.places); n != c.n || ok != c.ok {
			t.Errorf("Total(%v, %v) = %d, %t; want %d, %t", c.widths, c.places, n, ok, c.n, c.ok)
		}
	}
}

// Su1: all rows of places of a few widths, places that are none among them.
func TestTotalByDefinition(t *testing.T) {
	for _, widths := range [][]int{nil, {7}, {7, 1}, {7, 1, 256}, {7, 7, 7, 2}} {
		for _, places := range lists([]int{-1, 0, 1, 2, 3, 4}, 5) {
			want, ok := 0, slices.ContainsFunc(every(len(widths)), func(l []int) bool { return slices.Equal(l, places) })
			if ok {
				want = together(widths, places)
			}
			if n, rises := Total(widths, places); n != want || rises != ok {
				t.Fatalf("Total(%v, %v) = %d, %t; meant: %d, %t", widths, places, n, rises, want, ok)
			}
		}
	}
}

// wrong asks for ErrArg, and nothing beside it.
func wrong(t *testing.T, widths []int, room int) {
	t.Helper()
	if places, n, e := Best(widths, room); len(places) != 0 || n != 0 || e != api.ErrArg {
		t.Errorf("Best(%v, %d) = %v, %d, %d", widths, room, places, n, e)
	}
	if l, e := Reach(widths, room); len(l) != 0 || e != api.ErrArg {
		t.Errorf("Reach(%v, %d) = %v, %d", widths, room, l, e)
	}
}

// Su1: each width that may not be, at each place of lists of any length, also where the room is nothing, or would not hold it.
func TestNoWidths(t *testing.T) {
	for _, width := range noWidths() {
		for _, many := range []int{1, 2, 5, 63, 64} {
			for n := range many {
				widths := alike(many, 3)
				widths[n] = width
				for _, room := range []int{0, 1, 7, greatest} {
					wrong(t, widths, room)
				}
				for _, places := range [][]int{nil, {0}, {n}, {many - 1}} {
					if total, ok := Total(widths, places); total != 0 || ok {
						t.Errorf("Total(%v, %v) = %d, %t", widths, places, total, ok)
					}
				}
			}
		}
	}
}

// Su1: each room that may not be, beside widths that may be, and that may not; the least and the greatest room may be.
func TestNoRooms(t *testing.T) {
	for _, widths := range [][]int{nil, {1}, {3, 5, 2}, {256}, {0}, {257}, alike(most, 4), alike(most+1, 4)} {
		for _, room := range noRooms() {
			wrong(t, widths, room)
		}
	}
	for _, widths := range [][]int{nil, {1}, {3, 5, 2}, {256}, alike(most, 4)} {
		sound(t, widths, 0)
		sound(t, widths, greatest)
	}
}

// Su1: 64 may be, 65 and more not.
func TestTooMany(t *testing.T) {
	for _, width := range []int{1, 2, 4, greatest} {
		for _, room := range []int{0, 1, 255, greatest} {
			sound(t, alike(most-1, width), room)
			sound(t, alike(most, width), room)
			wrong(t, alike(most+1, width), room)
			wrong(t, alike(1<<12, width), room)
		}
		sound(t, mixed(most, width, width), greatest)
		wrong(t, mixed(most+1, width, width), greatest)
	}
}

// Su1: all lists of five small widths at most, in all rooms up to more than all of them.
func TestSmallByDefinition(t *testing.T) {
	for _, widths := range lists([]int{1, 2, 3, 4, 5}, 5) {
		for room := range 27 {
			same(t, widths, room)
		}
	}
}

// Su1: all lists of four widths at edges at most, in all rooms at edges.
func TestEdgesByDefinition(t *testing.T) {
	for _, widths := range lists(edges(), 4) {
		for _, room := range append(edges(), 0, 3, 126, 130, 253) {
			same(t, widths, room)
		}
	}
}

// Su1: lists that are longer, of which still all choices are looked at.
func TestLongByDefinition(t *testing.T) {
	for seed := range 40 {
		for many := 6; many <= 11; many++ {
			for _, widest := range []int{3, 12, 60, 256} {
				same(t, mixed(many, seed, widest), seed*37%257)
			}
		}
	}
}

// Su2: no choice is fuller, in all rooms, of as many widths as may be; and what Best fills is what Reach reaches last.
func TestFullest(t *testing.T) {
	for seed := range 6 {
		for _, many := range []int{1, 3, 8, 20, 40, 63, 64} {
			for _, widest := range []int{2, 9, 70, 256} {
				widths := mixed(many, seed, widest)
				for room := seed; room <= greatest; room += 5 {
					sound(t, widths, room)
				}
			}
		}
	}
	for seed := range 60 {
		widths := mixed(5+seed, seed, 256)
		for room := range greatest + 1 {
			_, n, _ := Best(widths, room)
			l, _ := Reach(widths, room)
			last := room
			for !l[last] {
				last--
			}
			if len(l) != room+1 || n != last {
				t.Fatalf("Best(%v, %d): %d; Reach: %d of %d", widths, room, n, last, len(l))
			}
		}
	}
}

// Su1: of choices that are as full the earliest places, also where all widths are many times the same.
func TestEarliest(t *testing.T) {
	for _, some := range [][]int{{1, 2}, {2, 1}, {3, 5}, {5, 3}, {2, 4, 6}, {6, 4, 2}, {100, 56, 28}, {28, 56, 100}, {85, 86}, {128, 64, 32}} {
		for _, many := range []int{1, 4, 9, 21} {
			widths := slices.Repeat(some, many)
			for room := range greatest + 1 {
				sound(t, widths, room)
			}
		}
	}
}

// R3: nothing is written to what is handed in, and an answer is new memory.
func TestNewMemory(t *testing.T) {
	widths, places := []int{3, 5, 2, 99, 99}, []int{1, 2, 98}
	short, rises := widths[:3], places[:2]
	first, n, _ := Best(short, 7)
	sums, _ := Reach(short, 7)
	total, _ := Total(short, rises)
	if n != 7 || total != 7 || !slices.Equal(widths, []int{3, 5, 2, 99, 99}) || !slices.Equal(places, []int{1, 2, 98}) {
		t.Errorf("turned: %v, %v", widths, places)
	}
	for n := range first {
		first[n] = 50
	}
	for n := range sums {
		sums[n] = !sums[n]
	}
	_, _ = append(first, 51), append(sums, true)
	same(t, short, 7)
	kept, _, _ := Best(short, 7)
	known, _ := Reach(short, 7)
	short[0], short[1], short[2] = 1, 1, 1
	if !slices.Equal(kept, []int{1, 2}) || !slices.Equal(known, []bool{true, false, true, true, false, true, false, true}) {
		t.Errorf("an answer has turned: %v, %v", kept, known)
	}
}

// Su1, Su2 of any widths, rooms and places: go test -run xxx -fuzz=FuzzChoices ./subset.
func FuzzChoices(f *testing.F) {
	f.Add([]byte{2, 4, 1}, 7, []byte{1, 2}, 0)
	f.Add([]byte{255, 0, 254}, 256, []byte{0, 2}, 257)
	f.Add([]byte{3, 3, 3, 3, 3, 3, 3, 3, 3, 3, 3, 3}, 255, []byte{255, 0}, math.MaxInt)
	f.Fuzz(func(t *testing.T, some []byte, room int, rises []byte, odd int) {
		var widths, places []int
		for _, b := range some {
			widths = append(widths, int(b)+1)
		}
		for _, b := range rises {
			places = append(places, int(int8(b)))
		}
		if len(widths) > most || room < 0 || room > greatest {
			wrong(t, widths, room)
			return
		}
		sound(t, widths, room)
		if len(widths) <= 10 {
			same(t, widths, room)
		}
		ok := true
		for n, place := range places {
			ok = ok && 0 <= place && place < len(widths) && (n == 0 || places[n-1] < place)
		}
		want := 0
		if ok {
			want = together(widths, places)
		}
		if n, is := Total(widths, places); n != want || is != ok {
			t.Fatalf("Total(%v, %v) = %d, %t; meant: %d, %t", widths, places, n, is, want, ok)
		}
		if odd < 1 || odd > greatest {
			wrong(t, append(widths, odd), room)
		}
	})
}
