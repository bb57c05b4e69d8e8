package paths

import (
	"testing"

	"braidline/api"
)

func acked(t *testing.T, p api.Path, bytes, part int, moved bool, want api.Path) {
	t.Helper()
	if got := Acked(p, bytes, part, moved); got != want {
		t.Errorf("Acked(%+v, %d, %d, %t) = %+v, not %+v", p, bytes, part, moved, got, want)
	}
}

func halved(t *testing.T, p api.Path, part int, want api.Path) {
	t.Helper()
	if got := Halved(p, part); got != want {
		t.Errorf("Halved(%+v, %d) = %+v, not %+v", p, part, got, want)
	}
}

func late(t *testing.T, p api.Path, part int, want api.Path) {
	t.Helper()
	if got := Late(p, part); got != want {
		t.Errorf("Late(%+v, %d) = %+v, not %+v", p, part, got, want)
	}
}

// waits is a path of which only Window, Slow and Partial are told: it waits as a new one does.
func waits(window, slow, partial int) api.Path {
	return api.Path{Window: window, Slow: slow, Partial: partial, Wait: 3}
}

// G1: a new path has room for 2 parts, grows fast up to 32, and waits for nothing.
func TestNew(t *testing.T) {
	for part, want := range map[int]api.Path{
		1:           {Window: 2, Slow: 32, Wait: 3},
		2:           {Window: 4, Slow: 64, Wait: 3},
		5:           {Window: 10, Slow: 160, Wait: 3},
		15:          {Window: 30, Slow: 480, Wait: 3},
		api.MaxPart: {Window: 32, Slow: 512, Wait: 3},
	} {
		if got := New(part); got != want {
			t.Errorf("New(%d) = %+v, not %+v", part, got, want)
		}
	}
}

// G1: up to Slow, Window grows by what came, but by a part at most, and Partial does not.
func TestAckedGrowsFast(t *testing.T) {
	acked(t, waits(8, 128, 0), 8, 4, true, waits(12, 128, 0)) // the document's example
	acked(t, waits(8, 128, 0), 3, 4, true, waits(11, 128, 0))
	acked(t, waits(8, 128, 0), 4, 4, true, waits(12, 128, 0))
	acked(t, waits(8, 128, 0), 5, 4, true, waits(12, 128, 0))
	acked(t, waits(8, 128, 0), 1, 4, true, waits(9, 128, 0))
	acked(t, waits(8, 128, 0), 1, 1, true, waits(9, 128, 0))
	acked(t, waits(8, 128, 0), 2, 1, true, waits(9, 128, 0))
	acked(t, waits(8, 128, 0), 960, 16, true, waits(24, 128, 0))
	acked(t, waits(127, 128, 0), 9, 4, true, waits(131, 128, 0)) // beyond Slow, in one step
	acked(t, waits(128, 128, 0), 9, 4, true, waits(132, 128, 0)) // at Slow it is not above it
	acked(t, waits(128, 128, 50), 9, 4, true, waits(132, 128, 50))
	acked(t, waits(8, 128, 50), 9, 4, true, waits(12, 128, 50)) // what was gathered stays
	acked(t, waits(0, 0, 0), 9, 4, true, waits(4, 0, 0))
}

// G1: above Slow, a Window of bytes must have come until it is a part more.
func TestAckedGrowsSlowly(t *testing.T) {
	acked(t, waits(129, 128, 0), 9, 4, true, waits(129, 128, 9))
	acked(t, waits(129, 128, 9), 1, 4, true, waits(129, 128, 10))
	acked(t, waits(20, 10, 11), 8, 4, true, waits(20, 10, 19))
	acked(t, waits(20, 10, 11), 9, 4, true, waits(24, 10, 0)) // just Window
	acked(t, waits(20, 10, 11), 10, 4, true, waits(24, 10, 1))
	acked(t, waits(20, 10, 0), 19, 4, true, waits(20, 10, 19))
	acked(t, waits(20, 10, 0), 20, 4, true, waits(24, 10, 0))
	acked(t, waits(20, 10, 0), 25, 16, true, waits(36, 10, 5))
	acked(t, waits(20, 10, 19), 1, 1, true, waits(21, 10, 0))
	acked(t, waits(20, 10, 0), 70, 4, true, waits(24, 10, 50)) // a part at a time, however many came
	acked(t, waits(24, 10, 50), 1, 4, true, waits(28, 10, 27)) // the rest is still there
	acked(t, waits(1, 0, 0), 1, 4, true, waits(5, 0, 0))
}

// G1: no bytes let nothing grow, also if more than a Window was gathered.
func TestAckedOfNoBytes(t *testing.T) {
	for _, p := range []api.Path{waits(8, 128, 0), waits(128, 128, 3), waits(129, 128, 128), waits(20, 10, 20), waits(20, 10, 50), waits(0, 0, 0)} {
		for _, part := range []int{1, 4, 16} {
			acked(t, p, 0, part, true, p)
			acked(t, p, 0, part, false, p)
		}
	}
}

// G1: what moved has an end with errors, with the alarm and with long waits, whether there are bytes, or not; Flight is not for Acked.
func TestAckedMoved(t *testing.T) {
	p := api.Path{Window: 8, Slow: 128, Partial: 1, Flight: 7, Errors: 2, Alarm: 31, Wait: 12}
	acked(t, p, 0, 4, true, api.Path{Window: 8, Slow: 128, Partial: 1, Flight: 7, Wait: 3})
	acked(t, p, 3, 4, true, api.Path{Window: 11, Slow: 128, Partial: 1, Flight: 7, Wait: 3})
	p.Slow = 7
	acked(t, p, 3, 4, true, api.Path{Window: 8, Slow: 7, Partial: 4, Flight: 7, Wait: 3})
	acked(t, p, 7, 4, true, api.Path{Window: 12, Slow: 7, Flight: 7, Wait: 3})
	acked(t, api.Path{Errors: 9, Alarm: 1}, 0, 4, true, api.Path{Wait: 3})
	acked(t, api.Path{Errors: 9, Wait: 24}, 0, 4, true, api.Path{Wait: 3})
}

// G1: what did not move leaves all as it was, however many bytes came.
func TestAckedNotMoved(t *testing.T) {
	for _, slow := range []int{0, 7, 8, 128} {
		p := api.Path{Window: 8, Slow: slow, Partial: 1, Flight: 7, Errors: 2, Alarm: 31, Wait: 12}
		for bytes := range 30 {
			acked(t, p, bytes, 4, false, p)
		}
	}
}

// G1: Slow is half of Window, but 4 parts at least; Window is not above it.
func TestHalved(t *testing.T) {
	halved(t, waits(40, 160, 0), 5, waits(20, 20, 0)) // half of it is just 4 parts
	halved(t, waits(41, 160, 7), 5, waits(20, 20, 0))
	halved(t, waits(42, 160, 41), 5, waits(21, 21, 0))
	halved(t, waits(43, 160, 0), 5, waits(21, 21, 0))
	halved(t, waits(44, 160, 0), 5, waits(22, 22, 0))
	halved(t, waits(39, 160, 0), 5, waits(20, 20, 0))
	halved(t, waits(21, 160, 0), 5, waits(20, 20, 0))
	halved(t, waits(20, 160, 6), 5, waits(20, 20, 0))
	halved(t, waits(19, 160, 6), 5, waits(19, 20, 0)) // it was not above
	halved(t, waits(10, 160, 0), 5, waits(10, 20, 0))
	halved(t, waits(10, 3, 9), 5, waits(10, 20, 0)) // Slow may be more than it was
	halved(t, waits(0, 0, 0), 5, waits(0, 20, 0))
	halved(t, waits(9, 32, 0), 1, waits(4, 4, 0))
	halved(t, waits(999, 32, 0), 16, waits(499, 499, 0))
	halved(t, waits(100, 32, 0), 16, waits(64, 64, 0))
}

// G1: of all else Halved changes nothing.
func TestHalvedLeavesTheRest(t *testing.T) {
	p := api.Path{Window: 50, Slow: 60, Partial: 8, Flight: 45, Errors: 3, Alarm: 17, Wait: 24}
	halved(t, p, 4, api.Path{Window: 25, Slow: 25, Flight: 45, Errors: 3, Alarm: 17, Wait: 24})
	p.Window = 5
	halved(t, p, 4, api.Path{Window: 5, Slow: 16, Flight: 45, Errors: 3, Alarm: 17, Wait: 24})
}

// G1: a path that is late begins again with a part, an error more, and a longer wait.
func TestLate(t *testing.T) {
	p := api.Path{Window: 50, Slow: 60, Partial: 8, Flight: 45, Errors: 1, Alarm: 17, Wait: 6}
	late(t, p, 4, api.Path{Window: 4, Slow: 25, Errors: 2, Wait: 12})
	p.Window, p.Errors = 51, 3
	late(t, p, 4, api.Path{Window: 4, Slow: 25, Errors: 4, Wait: 12})
	p.Window, p.Errors = 33, 4
	late(t, p, 4, api.Path{Window: 4, Slow: 16, Errors: 5, Wait: 12})
	p.Window = 34
	late(t, p, 4, api.Path{Window: 4, Slow: 17, Errors: 5, Wait: 12})
	p.Window = 2
	late(t, p, 4, api.Path{Window: 4, Slow: 16, Errors: 5, Wait: 12}) // a part, also if there was less
	late(t, api.Path{}, 16, api.Path{Window: 16, Slow: 64, Errors: 1})
}

// G1: step by step it waits longer, but not for ever.
func TestLateWaits(t *testing.T) {
	for wait, want := range map[int]int{0: 0, 1: 2, 3: 6, 6: 12, 11: 22, 12: 24, 13: 24, 24: 24, 25: 24, 48: 24, 1000: 24} {
		late(t, api.Path{Wait: wait}, 1, api.Path{Window: 1, Slow: 4, Errors: 1, Wait: want})
	}
	p := New(4)
	for i, wait := range []int{6, 12, 24, 24, 24} {
		want := api.Path{Window: 4, Slow: 16, Errors: i + 1, Wait: wait}
		late(t, p, 4, want)
		p = want
	}
	acked(t, p, 3, 4, true, api.Path{Window: 7, Slow: 16, Wait: 3})
}

// G1: open is a path on which less is than may be.
func TestOpen(t *testing.T) {
	for window := range 40 {
		for flight := range 50 {
			p := api.Path{Window: window, Flight: flight}
			if Open(p) != (window-flight >= 1) {
				t.Errorf("Open(%+v) = %t", p, Open(p))
			}
		}
	}
}

// failed are paths with these Errors.
func failed(errors ...int) []api.Path {
	var l []api.Path
	for _, n := range errors {
		l = append(l, api.Path{Errors: n})
	}
	return l
}

func choose(t *testing.T, l []api.Path, want int) {
	t.Helper()
	if got := Choose(l); got != want {
		t.Errorf("Choose(%+v) = %d, not %d", l, got, want)
	}
}

// G1: the first path is chosen that has not more than MaxErrors.
func TestChoose(t *testing.T) {
	choose(t, failed(), 0)
	choose(t, failed(0), 0)
	choose(t, failed(3), 0)
	choose(t, failed(4), 0)
	choose(t, failed(3, 0), 0) // not the one with fewest, but the first one
	choose(t, failed(4, 3), 1)
	choose(t, failed(4, 0), 1)
	choose(t, failed(4, 4), 0)
	choose(t, failed(5, 4), 0)
	choose(t, failed(9, 4, 2, 0), 2)
	choose(t, failed(9, 4, 5, 3), 3)
	choose(t, failed(9, 4, 5, 6), 0)
}

// wantedChoice is which one of l Choose must tell, found from its end.
func wantedChoice(l []api.Path) int {
	out := 0
	for i := len(l) - 1; i >= 0; i-- {
		if l[i].Errors < 4 {
			out = i
		}
	}
	return out
}

// G1: of all lists of up to 5 paths.
func TestChooseOfAll(t *testing.T) {
	var all func(l []api.Path)
	all = func(l []api.Path) {
		choose(t, l, wantedChoice(l))
		if len(l) == 5 {
			return
		}
		for _, n := range []int{0, 2, 3, 4, 5, 100} {
			all(append(l[:len(l):len(l)], api.Path{Errors: n}))
		}
	}
	all(nil)
}

// wantedAcked words the chapter once more: bytes come one by one.
func wantedAcked(p api.Path, bytes, part int) api.Path {
	p.Errors, p.Alarm, p.Wait = 0, 0, 3
	if p.Window > p.Slow {
		need := p.Window
		for range bytes {
			p.Partial++
		}
		if bytes > 0 && p.Partial >= need {
			p.Partial, p.Window = p.Partial-need, need+part
		}
		return p
	}
	for i := 0; i < bytes && i < part; i++ {
		p.Window++
	}
	return p
}

// wantedSlow is the least number that is neither below half of the window, rounded down, nor below 4 parts.
func wantedSlow(window, part int) int {
	n := part + part + part + part
	for 2*n+1 < window {
		n++
	}
	return n
}

// small has each path of small numbers.
func small(each func(p api.Path)) {
	for window := range 24 {
		for _, slow := range []int{0, 1, 4, 7, 8, 9, 15, 22, 23, 30} {
			for _, partial := range []int{0, 1, 6, 7, 8, 22, 23, 40} {
				each(api.Path{Window: window, Slow: slow, Partial: partial, Flight: 3, Errors: window % 5, Alarm: partial, Wait: slow})
			}
		}
	}
}

// G1: all calls, of many paths, against the other wording.
func TestAllAsTheChapterSays(t *testing.T) {
	small(func(p api.Path) {
		for _, part := range []int{1, 2, 3, 7, 16} {
			for bytes := range 26 {
				acked(t, p, bytes, part, true, wantedAcked(p, bytes, part))
				acked(t, p, bytes, part, false, p)
			}
			less := p
			less.Slow, less.Partial = wantedSlow(p.Window, part), 0
			if less.Window > less.Slow {
				less.Window = less.Slow
			}
			halved(t, p, part, less)
			wait := p.Wait + p.Wait
			if wait > 24 {
				wait = 24
			}
			late(t, p, part, api.Path{Window: part, Slow: less.Slow, Errors: p.Errors + 1, Wait: wait})
		}
	})
}

// G1: whatever comes upon a new path, Window never falls below a part, nor Slow below 4, Partial stays below Window, and waits are those of the limits.
func TestRuns(t *testing.T) {
	for _, part := range []int{1, 3, 16} {
		for seed := range 200 {
			p, n := New(part), seed
			for range 60 {
				n = (n*1103515245 + 12345) % (1 << 31)
				switch do := n >> 16 % 16; {
				case do == 0:
					p = Late(p, part)
				case do == 1:
					p = Halved(p, part)
				default:
					p = Acked(p, n>>20%(2*part), part, do < 13)
				}
				if p.Window < part || p.Slow < 4*part || p.Partial < 0 || p.Partial >= p.Window || p.Wait < 3 || p.Wait > 24 {
					t.Fatalf("parts of %d, seed %d: %+v", part, seed, p)
				}
			}
		}
	}
}
