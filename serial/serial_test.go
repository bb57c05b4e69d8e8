package serial

import (
	"math"
	"reflect"
	"slices"
	"testing"

	"braidline/api"
)

const far = 1 << 40

// spans makes a list of spans of Froms and Tos.
func spans(ends ...int) []api.Span {
	var l []api.Span
	for i := 0; i+1 < len(ends); i += 2 {
		l = append(l, api.Span{From: ends[i], To: ends[i+1]})
	}
	return l
}

// same holds lists against each other; nil and a list without entries are the same.
func same(a, b []api.Span) bool { return slices.Equal(a, b) }

// ofSet makes the fewest spans that have base + i for each bit i of set, and nothing else.
func ofSet(set uint, base int) []api.Span {
	var l []api.Span
	for i := range 16 {
		if set>>i&1 == 0 {
			continue
		}
		if i > 0 && set>>(i-1)&1 == 1 {
			l[len(l)-1].To++
		} else {
			l = append(l, api.Span{From: base + i, To: base + i})
		}
	}
	return l
}

// bases are where small sets of numbers begin: around 0, and at both ends of what is promised.
var bases = []int{-4, 0, 65530, -far, far - 8}

func TestTag(t *testing.T) {
	for _, c := range []struct{ n, want int }{
		{0, 0}, {1, 1}, {65535, 65535}, {65536, 0}, {65537, 1}, {3 * 65536, 0},
		{-1, 65535}, {-65535, 1}, {-65536, 0}, {-65537, 65535},
		{far, 0}, {far + 5, 5}, {-far, 0}, {-far - 1, 65535},
		{math.MaxInt, 65535}, {math.MinInt, 0}, {math.MinInt + 1, 1},
	} {
		if got := Tag(c.n); got != c.want {
			t.Errorf("Tag(%d) = %d, not %d", c.n, got, c.want)
		}
	}
}

func TestTagGoesRound(t *testing.T) {
	tag := 0
	for n := -3 * api.MaxTag; n < 3*api.MaxTag; n++ {
		if got := Tag(n); got != tag {
			t.Fatalf("Tag(%d) = %d, not %d", n, got, tag)
		}
		tag++
		if tag == api.MaxTag {
			tag = 0
		}
	}
}

func TestNear(t *testing.T) {
	const half = api.MaxTag / 2
	for _, c := range []struct{ near, tag, want int }{
		{65530, 3, 65539}, // the document's example
		{0, 0, 0}, {7, 7, 7}, {100, 90, 90}, {100, 110, 110},
		{0, half - 1, half - 1}, {0, half, half}, {0, half + 1, 1 - half},
		{half, 0, api.MaxTag}, {half - 1, 0, 0}, {half + 1, 0, api.MaxTag},
		{0, 65535, -1}, {-1, 0, 0}, {-1, 65535, -1}, {-5, 3, 3}, {-65536, 3, -65533}, {-70000, 65535, -65537},
		{0, 65536, 0}, {0, 65539, 3}, {0, -1, -1}, {0, -65536 - 2, -2}, {1000000, -1, 983039},
		{far, 0, far}, {far, 1, far + 1}, {far, 65535, far - 1}, {far, half, far + half}, {far, half + 1, far - half + 1},
		{-far, 0, -far}, {-far, 65535, -far - 1}, {-far, half, -far + half}, {-far, half + 1, -far - half + 1},
		{5, math.MaxInt, -1}, {5, math.MinInt, 0}, {-far, math.MaxInt, -far - 1}, {far, math.MinInt, far},
	} {
		if got := Near(c.near, c.tag); got != c.want {
			t.Errorf("Near(%d, %d) = %d, not %d", c.near, c.tag, got, c.want)
		}
	}
}

// Each number that lies near enough comes back from its tag, and so from any number of that tag.
func TestNearComesBack(t *testing.T) {
	for _, near := range []int{-far, -far + 1, -65537, -65536, -32768, -1, 0, 1, 32767, 32768, 65535, 65536, 100000, far - 1, far} {
		for n := near - api.MaxTag/2 + 1; n <= near+api.MaxTag/2; n++ {
			for _, tag := range []int{Tag(n), n, n + 5*api.MaxTag, n - 5*api.MaxTag} {
				if got := Near(near, tag); got != n {
					t.Fatalf("Near(%d, %d) = %d, not %d", near, tag, got, n)
				}
			}
		}
	}
}

func TestAdd(t *testing.T) {
	for _, c := range []struct {
		l    []api.Span
		n    int
		want []api.Span
	}{
		{nil, 5, spans(5, 5)},
		{nil, 0, spans(0, 0)},
		{spans(5, 7), 5, spans(5, 7)}, // it is in
		{spans(5, 7), 6, spans(5, 7)},
		{spans(5, 7), 7, spans(5, 7)},
		{spans(5, 7), 4, spans(4, 7)}, // it touches
		{spans(5, 7), 8, spans(5, 8)},
		{spans(5, 7), 3, spans(3, 3, 5, 7)}, // a gap of one number
		{spans(5, 7), 9, spans(5, 7, 9, 9)},
		{spans(5, 7, 9, 12), 8, spans(5, 12)}, // the gap is filled
		{spans(5, 7, 10, 12), 8, spans(5, 8, 10, 12)},
		{spans(5, 7, 10, 12), 9, spans(5, 7, 9, 12)},
		{spans(5, 7, 11, 12), 9, spans(5, 7, 9, 9, 11, 12)},
		{spans(1, 1, 3, 3, 5, 5), 2, spans(1, 3, 5, 5)},
		{spans(1, 1, 3, 3, 5, 5), 4, spans(1, 1, 3, 5)},
		{spans(-3, -3, 1, 1), -1, spans(-3, -3, -1, -1, 1, 1)}, // below 0
		{spans(-3, -2, 1, 1), -1, spans(-3, -1, 1, 1)},
		{spans(-3, -1, 1, 1), 0, spans(-3, 1)},
		{spans(-9, -7), -100, spans(-100, -100, -9, -7)},
		{spans(-far+1, far-1), -far, spans(-far, far-1)},
		{spans(-far+1, far-1), far, spans(-far+1, far)},
		{spans(-far, far), 0, spans(-far, far)},
		{spans(-far, -far, far, far), -far, spans(-far, -far, far, far)},
		{spans(-far, -far, far, far), far, spans(-far, -far, far, far)},
		{spans(-far+2, far-2), -far, spans(-far, -far, -far+2, far-2)},
		{spans(-far+2, far-2), far, spans(-far+2, far-2, far, far)},
	} {
		if got := Add(c.l, c.n); !same(got, c.want) {
			t.Errorf("Add(%v, %d) = %v, not %v", c.l, c.n, got, c.want)
		}
	}
}

// Of every set of ten numbers, and each number in it, or beside it.
func TestAddToEverySet(t *testing.T) {
	for _, base := range bases {
		for set := range uint(1 << 10) {
			l := ofSet(set<<1, base-1)
			for i := range 12 {
				n := base - 1 + i
				want := ofSet(set<<1|1<<i, base-1)
				if got := Add(l, n); !same(got, want) {
					t.Fatalf("Add(%v, %d) = %v, not %v", l, n, got, want)
				}
			}
		}
	}
}

// In whatever order numbers come in, the same spans come of them.
func TestAddInAnyOrder(t *testing.T) {
	want := spans(0, 400)
	for _, step := range []int{1, 2, 7, 163, 400} { // 401 is a prime: each step meets all numbers
		var l []api.Span
		for i := range 401 {
			l = Add(l, i*step%401)
		}
		if !same(l, want) {
			t.Errorf("in steps of %d: %v, not %v", step, l, want)
		}
	}
}

func TestHas(t *testing.T) {
	for _, c := range []struct {
		l    []api.Span
		n    int
		want bool
	}{
		{nil, 0, false},
		{spans(5, 7), 4, false}, {spans(5, 7), 5, true}, {spans(5, 7), 6, true}, {spans(5, 7), 7, true}, {spans(5, 7), 8, false},
		{spans(5, 5, 9, 9), 7, false}, {spans(5, 5, 9, 9), 9, true}, {spans(5, 5, 7, 7), 6, false},
		{spans(-7, -5), -6, true}, {spans(-7, -5), 6, false}, {spans(-1, 1), 0, true},
		{spans(0, 0), 0, true}, {spans(0, 0), 65536, false},
		{spans(-far, -far, far, far), -far, true}, {spans(-far, -far, far, far), far, true},
		{spans(-far, -far, far, far), 0, false}, {spans(-far, far), far + 1, false}, {spans(-far, far), -far - 1, false},
		{spans(9, 9, 5, 5), 5, true}, {spans(9, 9, 5, 5), 9, true}, // they do not rise
		{spans(1, 9, 4, 5), 8, true}, {spans(4, 5, 1, 9), 8, true}, {spans(1, 3, 4, 6), 4, true}, // they lie over one another, or touch
		{spans(7, 5), 6, false}, {spans(7, 5), 7, false}, {spans(7, 5), 5, false}, // nothing is in it
		{spans(7, 5, 6, 6), 6, true}, {spans(6, 6, 7, 5), 6, true},
		{spans(math.MinInt, math.MaxInt), 0, true}, {spans(math.MinInt, math.MaxInt), math.MaxInt, true},
		{spans(math.MaxInt, math.MinInt), 0, false}, {spans(math.MaxInt, math.MaxInt), math.MinInt, false},
	} {
		if got := Has(c.l, c.n); got != c.want {
			t.Errorf("Has(%v, %d) = %v", c.l, c.n, got)
		}
	}
}

func TestHasOfEverySet(t *testing.T) {
	for _, base := range bases {
		for set := range uint(1 << 10) {
			l := ofSet(set, base)
			back := slices.Clone(l)
			slices.Reverse(back)
			for i := -1; i <= 10; i++ {
				want := i >= 0 && set>>i&1 == 1
				if Has(l, base+i) != want || Has(back, base+i) != want {
					t.Fatalf("Has(%v, %d) = %v, backwards %v", l, base+i, Has(l, base+i), Has(back, base+i))
				}
			}
		}
	}
}

func TestUp(t *testing.T) {
	for _, c := range []struct {
		l    []api.Span
		cum  int
		want int
		left []api.Span
	}{
		{nil, 5, 5, nil},
		{nil, -5, -5, nil},
		{spans(5, 7), 3, 3, spans(5, 7)}, // a gap of one number
		{spans(5, 7), 4, 7, nil},         // it touches
		{spans(5, 7), 5, 7, nil},
		{spans(5, 7), 7, 7, nil},
		{spans(5, 7), 8, 8, nil}, // cum is greater
		{spans(5, 7), 100, 100, nil},
		{spans(5, 7, 9, 9), 4, 7, spans(9, 9)},
		{spans(5, 7, 9, 9), 8, 9, nil},
		{spans(5, 7, 10, 10), 8, 8, spans(10, 10)},
		{spans(5, 5, 7, 7, 9, 9), 6, 7, spans(9, 9)},
		{spans(1, 1, 5, 7, 9, 10), 6, 7, spans(9, 10)},
		{spans(1, 1, 5, 7, 9, 10), 20, 20, nil},
		{spans(-3, -2, 0, 4), -4, -2, spans(0, 4)},
		{spans(-3, -2, 0, 4), -1, 4, nil},
		{spans(-3, -2, 0, 4), -5, -5, spans(-3, -2, 0, 4)},
		{spans(-far, far), -far, far, nil},
		{spans(-far, -far+3), -far - 1, -far + 3, nil},
		{spans(-far, -far+3), -far - 2, -far - 2, spans(-far, -far+3)},
		{spans(far, far), far - 1, far, nil},
		{spans(far, far), far - 2, far - 2, spans(far, far)},
		{spans(far, far), far, far, nil},
		{spans(-far, -far, far, far), -far, -far, spans(far, far)},
	} {
		if got, left := Up(c.l, c.cum); got != c.want || !same(left, c.left) {
			t.Errorf("Up(%v, %d) = %d, %v, not %d, %v", c.l, c.cum, got, left, c.want, c.left)
		}
	}
}

// Of every set of ten numbers: Up goes on as long as the next number is there, and leaves those that are above.
func TestUpOfEverySet(t *testing.T) {
	for _, base := range bases {
		for set := range uint(1 << 10) {
			l := ofSet(set, base)
			for i := -3; i <= 11; i++ {
				at := i
				for at+1 >= 0 && set>>(at+1)&1 == 1 {
					at++
				}
				rest := set
				if at >= 0 {
					rest = set >> (at + 1) << (at + 1)
				}
				got, left := Up(l, base+i)
				if got != base+at || !same(left, ofSet(rest, base)) {
					t.Fatalf("Up(%v, %d) = %d, %v, not %d, %v", l, base+i, got, left, base+at, ofSet(rest, base))
				}
			}
		}
	}
}

// Z1: whatever is given, spans that the chapter promises nothing of among it, nothing panics, and all calls answer the same again.
func TestNothingPanics(t *testing.T) {
	odd := []int{math.MinInt, math.MinInt + 1, -far, -1, 0, 1, far, math.MaxInt - 1, math.MaxInt}
	for _, n := range odd {
		if tag := Tag(n); tag < 0 || tag >= api.MaxTag {
			t.Errorf("Tag(%d) = %d", n, tag)
		}
		for _, a := range odd {
			if Near(n, a) != Near(n, a) {
				t.Errorf("Near(%d, %d) answers differently", n, a)
			}
			for _, b := range odd {
				for _, c := range odd {
					answersAlike(t, spans(a, b, c, a), n)
					answersAlike(t, spans(a, b, b, c, c, n), n)
				}
			}
		}
	}
}

func answersAlike(t *testing.T, l []api.Span, n int) {
	t.Helper()
	got, left := Up(l, n)
	again, rest := Up(l, n)
	if got != again || !same(left, rest) || !same(Add(l, n), Add(l, n)) || Has(l, n) != Has(l, n) {
		t.Fatalf("%v and %d: answered differently the second time", l, n)
	}
	if !Has(Add(l, n), n) {
		t.Fatalf("Add(%v, %d) has not %d", l, n, n)
	}
	if got < n {
		t.Fatalf("Up(%v, %d) goes down to %d", l, n, got)
	}
}

// Numbers at the ends of int go round nowhere.
func TestEndsOfInt(t *testing.T) {
	if got, want := Add(spans(math.MinInt, 0), math.MaxInt), spans(math.MinInt, 0, math.MaxInt, math.MaxInt); !same(got, want) {
		t.Errorf("Add: %v, not %v", got, want)
	}
	if got, want := Add(spans(0, math.MaxInt), math.MinInt), spans(math.MinInt, math.MinInt, 0, math.MaxInt); !same(got, want) {
		t.Errorf("Add: %v, not %v", got, want)
	}
	if got, left := Up(spans(math.MinInt, 3, 9, 9), math.MinInt); got != 3 || !same(left, spans(9, 9)) {
		t.Errorf("Up: %d, %v", got, left)
	}
	if got, left := Up(spans(0, 3, 9, 9), math.MaxInt); got != math.MaxInt || len(left) != 0 {
		t.Errorf("Up: %d, %v", got, left)
	}
}

// Z2: lists and the spare room behind them are neither changed nor kept, and what is answered is the caller's.
func TestListsAreOnlyRead(t *testing.T) {
	ask := []struct {
		name string
		call func(l []api.Span, n int) []api.Span
	}{
		{"Add", Add},
		{"Up", func(l []api.Span, n int) []api.Span { _, left := Up(l, n); return left }},
		{"Has", func(l []api.Span, n int) []api.Span { Has(l, n); return nil }},
	}
	for _, a := range ask {
		for n := 0; n <= 18; n++ {
			room := spans(3, 5, 7, 7, 9, 11, 14, 15, 77, 78, 80, 81)
			before := slices.Clone(room)
			got := a.call(room[:4], n)
			if !same(room, before) {
				t.Fatalf("%s of %d changed what it was handed: %v", a.name, n, room)
			}
			told := slices.Clone(got)
			for i := range room {
				room[i] = api.Span{From: -1000, To: -999}
			}
			if !same(got, told) {
				t.Fatalf("%s of %d: the answer changes with the list that was handed in", a.name, n)
			}
			copy(room, before)
			all := got[:cap(got)]
			for i := range all {
				all[i] = api.Span{From: 1000, To: 1001}
			}
			if !same(room, before) {
				t.Fatalf("%s of %d: the list that was handed in changes with the answer", a.name, n)
			}
		}
	}
}

// Two answers out of one list share nothing.
func TestAnswersShareNothing(t *testing.T) {
	l := Add(Add(Add(nil, 1), 5), 9)
	a, b := Add(l, 13), Add(l, 17)
	if !same(a, spans(1, 1, 5, 5, 9, 9, 13, 13)) || !same(b, spans(1, 1, 5, 5, 9, 9, 17, 17)) {
		t.Errorf("%v and %v", a, b)
	}
	_, left := Up(l, 1)
	left = append(left, api.Span{From: 30, To: 30})
	left[0] = api.Span{From: 40, To: 40}
	if !same(l, spans(1, 1, 5, 5, 9, 9)) {
		t.Errorf("%v: it changed with what Up left", l)
	}
}

// Z3: nil and a list without entries are the same.
func TestNilIsEmpty(t *testing.T) {
	behind := spans(5, 5) // spare room that must not be looked at
	for _, l := range [][]api.Span{nil, {}, behind[:0], behind[1:]} {
		for _, n := range []int{math.MinInt, -far, -1, 0, 4, 5, 6, far, math.MaxInt} {
			if got := Add(l, n); !reflect.DeepEqual(got, spans(n, n)) {
				t.Errorf("Add(%#v, %d) = %v", l, n, got)
			}
			if Has(l, n) {
				t.Errorf("Has(%#v, %d)", l, n)
			}
			if got, left := Up(l, n); got != n || len(left) != 0 {
				t.Errorf("Up(%#v, %d) = %d, %v", l, n, got, left)
			}
		}
	}
}
