package paths

import (
	"math"
	"slices"
	"testing"

	"braidline/api"
)

var odd = []int{math.MinInt, math.MinInt + 1, -65536, -1, 0, 1, 3, 4, 16, 17, 255, 65536, math.MaxInt / 2, math.MaxInt/2 + 1, math.MaxInt - 1, math.MaxInt}

// oddPaths has odd numbers in all fields, two by two.
func oddPaths(each func(p api.Path)) {
	for _, a := range odd {
		for _, b := range odd {
			each(api.Path{Window: a, Slow: b, Partial: a, Flight: b, Errors: a, Alarm: b, Wait: a})
			each(api.Path{Window: a, Slow: a, Partial: b, Flight: b, Errors: b, Alarm: a, Wait: b})
			each(api.Path{Window: a, Slow: 0, Partial: b, Flight: a, Errors: b, Alarm: b, Wait: b})
		}
	}
}

// Z1: whatever stands in a path, and whatever parts and bytes are, all calls answer, and the same again.
func TestNothingPanics(t *testing.T) {
	oddPaths(func(p api.Path) {
		for _, part := range odd {
			goesTheSame(t, p, 0, part)
			for _, bytes := range odd {
				goesTheSame(t, p, bytes, part)
			}
		}
	})
}

// goesTheSame: all calls answer each time the same, and what holds of whatever numbers holds.
func goesTheSame(t *testing.T, p api.Path, bytes, part int) {
	t.Helper()
	moved := Acked(p, bytes, part, true)
	if moved != Acked(p, bytes, part, true) || moved.Errors != 0 || moved.Alarm != 0 || moved.Wait != 3 || moved.Slow != p.Slow || moved.Flight != p.Flight {
		t.Fatalf("Acked(%+v, %d, %d, true) = %+v, then %+v", p, bytes, part, moved, Acked(p, bytes, part, true))
	}
	acked(t, p, bytes, part, false, p)
	less := Halved(p, part)
	if less != Halved(p, part) || less.Window > less.Slow || less.Partial != 0 {
		t.Fatalf("Halved(%+v, %d) = %+v, then %+v", p, part, less, Halved(p, part))
	}
	again := Late(p, part)
	if again != Late(p, part) || again.Window != part || again.Slow != less.Slow || again.Partial != 0 || again.Flight != 0 || again.Alarm != 0 || again.Wait > 24 {
		t.Fatalf("Late(%+v, %d) = %+v, then %+v", p, part, again, Late(p, part))
	}
	if Open(p) == (p.Flight >= p.Window) {
		t.Fatalf("Open(%+v) = %t", p, Open(p))
	}
	if one := New(part); one != New(part) || one.Window != part+part || one.Wait != 3 {
		t.Fatalf("New(%d) = %+v, then %+v", part, one, New(part))
	}
	two := []api.Path{p, again}
	choose(t, two, wantedChoice(two))
}

// G1, with numbers as great as there are: where what must come is a number, it comes.
func TestGreatNumbers(t *testing.T) {
	const most = math.MaxInt
	acked(t, waits(10, 20, most), most, 4, true, waits(14, 20, most))
	acked(t, waits(most-4, most, 0), most, 4, true, waits(most, most, 0))
	acked(t, waits(most-1, most, 0), 1, 4, true, waits(most, most, 0))
	acked(t, waits(20, 10, most), 5, 4, true, waits(24, 10, most-15)) // the sum is beyond all numbers, the rest is not
	acked(t, waits(20, 10, 5), most, 4, true, waits(24, 10, most-15))
	acked(t, waits(20, 10, most), 20, 4, true, waits(24, 10, most))
	acked(t, waits(most-4, 10, most), most-4, 4, true, waits(most, 10, most))
	acked(t, waits(most, 10, 0), most-1, 4, true, waits(most, 10, most-1))
	acked(t, waits(most, most-1, most-2), 1, 4, true, waits(most, most-1, most-1))
	halved(t, waits(most, most, most), 16, waits(most/2, most/2, 0))
	late(t, api.Path{Window: most, Slow: most, Partial: most, Flight: most, Errors: most - 1, Alarm: most, Wait: most}, 16,
		api.Path{Window: 16, Slow: most / 2, Errors: most, Wait: 24})
	late(t, api.Path{Wait: most/2 + 1}, 16, api.Path{Window: 16, Slow: 64, Errors: 1, Wait: 24})
	choose(t, failed(most, most, 0), 2)
	choose(t, failed(most, most), 0)
	for _, p := range []api.Path{{Window: most, Flight: most}, {Flight: most}, {Window: most - 1, Flight: most}} {
		if Open(p) {
			t.Errorf("Open(%+v)", p)
		}
	}
	for _, p := range []api.Path{{Window: most}, {Window: most, Flight: most - 1}} {
		if !Open(p) {
			t.Errorf("not Open(%+v)", p)
		}
	}
}

// FuzzPaths is run on its seeds by go test, and on more by go test -fuzz.
func FuzzPaths(f *testing.F) {
	f.Add(8, 128, 0, 0, 0, 0, 3, 8, 4)
	f.Add(20, 10, 11, 7, 4, 31, 12, 9, 4)
	f.Add(0, 0, 0, 0, 0, 0, 0, 0, 0)
	f.Add(math.MaxInt, 0, math.MaxInt, math.MinInt, -1, -1, math.MaxInt, math.MaxInt, math.MinInt)
	f.Fuzz(func(t *testing.T, window, slow, partial, flight, errors, alarm, wait, bytes, part int) {
		p := api.Path{Window: window, Slow: slow, Partial: partial, Flight: flight, Errors: errors, Alarm: alarm, Wait: wait}
		goesTheSame(t, p, bytes, part)
		rest := func(n, of int) int { return (n%of + of) % of }
		part = 1 + rest(part, api.MaxPart)
		bytes = rest(bytes, 1000)
		p.Window, p.Slow, p.Partial = rest(window, 1000), rest(slow, 1000), rest(partial, 1000)
		acked(t, p, bytes, part, true, wantedAcked(p, bytes, part))
		slow = wantedSlow(p.Window, part)
		if got := Halved(p, part).Slow; got != slow {
			t.Errorf("Halved(%+v, %d).Slow = %d, not %d", p, part, got, slow)
		}
	})
}

// Z2: paths are not changed, nor the spare room behind them, and that is not looked at.
func TestAllIsOnlyRead(t *testing.T) {
	all := failed(4, 9, 5, 0, 1)
	for i := range all {
		all[i].Window, all[i].Alarm = i, 2*i
	}
	was := slices.Clone(all)
	for many := range 4 {
		choose(t, all[:many], 0)
	}
	choose(t, all[:4], 3)
	if !slices.Equal(all, was) {
		t.Errorf("of what was handed in is left: %+v, not %+v", all, was)
	}
}

// Z3: nil, and a list without entries, are the same.
func TestNilIsEmpty(t *testing.T) {
	for _, none := range [][]api.Path{nil, {}, failed(4, 0)[:0], failed(0)[:0]} {
		choose(t, none, 0)
	}
}

// Z5: fields that the chapter does not name for a call mean nothing to it.
func TestFieldsThatAreNotNamed(t *testing.T) {
	for _, n := range odd {
		one := api.Path{Window: 5, Slow: n, Partial: n, Flight: 5, Errors: n, Alarm: n, Wait: n}
		if Open(one) {
			t.Errorf("Open(%+v)", one)
		}
		one.Flight = 4
		if !Open(one) {
			t.Errorf("not Open(%+v)", one)
		}
		l := failed(4, 3, 0)
		for i := range l {
			l[i].Window, l[i].Slow, l[i].Partial, l[i].Flight, l[i].Alarm, l[i].Wait = n, n, n, n, n, n
		}
		choose(t, l, 1)
		choose(t, l[:1], 0)
		p := api.Path{Window: 50, Slow: 40, Partial: 8, Flight: n, Errors: n, Alarm: n, Wait: n}
		acked(t, p, 5, 4, true, api.Path{Window: 50, Slow: 40, Partial: 13, Flight: n, Wait: 3})
		halved(t, p, 4, api.Path{Window: 25, Slow: 25, Flight: n, Errors: n, Alarm: n, Wait: n})
	}
}
