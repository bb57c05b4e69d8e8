package score

import (
	"bytes"
	"math"
	"slices"
	"testing"

	"braidline/api"
	"braidline/serial"
)

// states are all that there are, and some that are none.
var states = []int{math.MinInt, -1, 0, api.InFlight, api.Arrived, api.Lost, api.Given, 5, math.MaxInt}

// part is one of so many bytes, in flight on path 0 if nothing else is said of it.
func part(number, bytes int, change ...func(*api.Sent)) api.Sent {
	s := api.Sent{Number: number, State: api.InFlight, Times: 1,
		Chunk: api.Chunk{Kind: api.ChData, Tag: serial.Tag(number), Data: make([]byte, bytes)}}
	for _, do := range change {
		do(&s)
	}
	return s
}

func state(n int) func(*api.Sent)  { return func(s *api.Sent) { s.State = n } }
func path(n int) func(*api.Sent)   { return func(s *api.Sent) { s.Path = n } }
func missed(n int) func(*api.Sent) { return func(s *api.Sent) { s.Missed = n } }
func id(n int) func(*api.Sent)     { return func(s *api.Sent) { s.ID = n } }

// of has a part be of that message.
func of(stream, mid int, ordered bool) func(*api.Sent) {
	return func(s *api.Sent) { s.Chunk.Stream, s.Chunk.Mid, s.Chunk.Ordered = stream, mid, ordered }
}

// flying are parts from number first on, of 1, 2, 4, 8 bytes and so on, so that each sum tells of which ones it is.
func flying(first, many int) []api.Sent {
	var l []api.Sent
	for i := range many {
		l = append(l, part(first+i, 1<<i))
	}
	return l
}

// inStates are parts of these states, likewise.
func inStates(first int, l ...int) []api.Sent {
	out := flying(first, len(l))
	for i := range out {
		out[i].State = l[i]
	}
	return out
}

func statesOf(l []api.Sent) []int {
	var out []int
	for _, s := range l {
		out = append(out, s.State)
	}
	return out
}

// told is a sack: all up to n have come, and spans, of Froms and Tos, above it.
func told(n int, ends ...int) api.Chunk {
	c := api.Chunk{Kind: api.ChSack, Tag: serial.Tag(n)}
	for i := 0; i+1 < len(ends); i += 2 {
		c.Spans = append(c.Spans, api.Span{From: ends[i], To: ends[i+1]})
	}
	return c
}

// alike holds parts against each other; nil and a list without entries are the same.
func alike(a, b api.Sent) bool {
	numbers := func(s api.Sent) [14]int {
		c := s.Chunk
		return [...]int{s.Number, s.ID, s.State, s.Path, s.Missed, s.Times, s.Came, s.Life, s.Tries, c.Kind, c.Tag, c.Stream, c.Mid, c.Part}
	}
	x, y := a.Chunk, b.Chunk
	return numbers(a) == numbers(b) && x.Last == y.Last && x.Ordered == y.Ordered && x.Room == y.Room &&
		bytes.Equal(x.Data, y.Data) && slices.Equal(x.Spans, y.Spans) && slices.Equal(x.Skips, y.Skips)
}

func same(a, b []api.Sent) bool { return slices.EqualFunc(a, b, alike) }

// answer is all that Sack answers.
type answer struct {
	out        []api.Sent
	now        int
	come, lost []int
}

func (a answer) is(b answer) bool {
	return same(a.out, b.out) && a.now == b.now && slices.Equal(a.come, b.come) && slices.Equal(a.lost, b.lost)
}

func sack(l []api.Sent, cum int, c api.Chunk, paths int) answer {
	out, now, come, lost := Sack(l, cum, c, paths)
	return answer{out, now, come, lost}
}

func sacks(t *testing.T, l []api.Sent, cum int, c api.Chunk, paths int, want answer) {
	t.Helper()
	if got := sack(l, cum, c, paths); !got.is(want) {
		t.Errorf("Sack(%+v, %d, %+v, %d) = %+v, not %+v", l, cum, c, paths, got, want)
	}
}

func points(t *testing.T, l []api.Sent, cum, want int, skips ...api.Skip) {
	t.Helper()
	if got, s := Point(l, cum); got != want || !slices.Equal(s, skips) {
		t.Errorf("Point(%+v, %d) = %d, %+v, not %d, %+v", l, cum, got, s, want, skips)
	}
}

func TestOwn(t *testing.T) {
	full := api.Sent{Number: 1, ID: 2, State: 3, Path: 4, Missed: 5, Times: 6, Came: 7, Life: 8, Tries: 9,
		Chunk: api.Chunk{Kind: 10, Tag: 11, Stream: 12, Mid: 13, Part: 14, Last: true, Ordered: true, Data: []byte("abc"),
			Spans: []api.Span{{From: 15, To: 16}}, Room: 17, Skips: []api.Skip{{Stream: 18, Mid: 19, Ordered: true}}}}
	for _, l := range [][]api.Sent{nil, {{}}, {full}, {full, {}, full}, flying(5, 3), inStates(-2, states...)} {
		if got := Own(l); !same(got, l) {
			t.Errorf("Own(%+v) = %+v", l, got)
		}
	}
}

func TestGive(t *testing.T) {
	for _, given := range []int{0, 1, 2, 7, -1, math.MinInt, math.MaxInt} {
		for _, before := range states {
			l := []api.Sent{part(5, 1, id(given), state(before)), part(6, 2, id(given+1), state(before)), part(7, 3, id(given), state(before)), part(8, 4, id(given-1), state(before))}
			want := []int{api.Given, before, api.Given, before}
			if before == api.Arrived {
				want = []int{before, before, before, before}
			}
			changed(t, "Give", l, Give(l, given), want)
		}
	}
	if got := Give(nil, 0); len(got) != 0 {
		t.Errorf("Give of nothing is %+v", got)
	}
}

// changed: what came of l has these states, and all else is as it was.
func changed(t *testing.T, name string, l, got []api.Sent, want []int) {
	t.Helper()
	if !slices.Equal(statesOf(got), want) {
		t.Errorf("%s of %+v: states %v, not %v", name, l, statesOf(got), want)
		return
	}
	again := slices.Clone(got)
	for i := range again {
		again[i].State = l[i].State
	}
	if !same(again, l) {
		t.Errorf("%s changes more than states: %+v, then %+v", name, l, got)
	}
}

func TestLate(t *testing.T) {
	for _, late := range []int{0, 1, 2, -1, math.MinInt, math.MaxInt} {
		for _, before := range states {
			l := []api.Sent{part(5, 1, path(late), state(before), missed(2)), part(6, 2, path(late+1), state(before), missed(1)), part(7, 3, path(late), state(before)), part(8, 4, path(late-1), state(before))}
			want := []int{before, before, before, before}
			if before == api.InFlight {
				want = []int{api.Lost, before, api.Lost, before}
			}
			changed(t, "Late", l, Late(l, late), want)
		}
	}
	if got := Late(nil, 0); len(got) != 0 {
		t.Errorf("Late of nothing is %+v", got)
	}
}

func TestFlight(t *testing.T) {
	for _, of := range states {
		l := []api.Sent{part(5, 1, state(of)), part(6, 2, path(1), state(of)), part(7, 4, state(of)), part(8, 0, state(of)), part(9, 16, path(1), state(of)), part(10, 32, path(-1), state(of))}
		for path, want := range map[int]int{0: 5, 1: 18, -1: 32, 2: 0, math.MaxInt: 0, math.MinInt: 0} {
			if of != api.InFlight {
				want = 0
			}
			if got := Flight(l, path); got != want {
				t.Errorf("of state %d Flight on path %d is %d, not %d", of, path, got, want)
			}
		}
	}
	mixed := inStates(1, api.InFlight, api.Lost, api.Arrived, api.InFlight, api.Given, 0, api.InFlight)
	if got := Flight(mixed, 0); got != 1+8+64 {
		t.Errorf("Flight of %+v is %d", mixed, got)
	}
	if got := Flight(nil, 0); got != 0 {
		t.Errorf("Flight of nothing is %d", got)
	}
}

// What is late is in flight no more, on that path alone.
func TestLateIsNotInFlight(t *testing.T) {
	l := []api.Sent{part(1, 4), part(2, 2, path(1)), part(3, 8)}
	after := Late(l, 0)
	if Flight(l, 0) != 12 || Flight(after, 0) != 0 || Flight(after, 1) != 2 {
		t.Errorf("in flight are %d, then %d, and on the other path %d", Flight(l, 0), Flight(after, 0), Flight(after, 1))
	}
}

func TestPointStops(t *testing.T) {
	for _, cum := range []int{-7, -1, 0, 4, 65535, 1 << 40, -1 << 40} {
		points(t, nil, cum, cum)
		for _, of := range states {
			one := []api.Sent{part(cum+1, 2, state(of), func(s *api.Sent) { s.Chunk.Stream, s.Chunk.Mid = 1, 9 })}
			switch of {
			case api.Given:
				points(t, one, cum, cum+1, api.Skip{Stream: 1, Mid: 9})
			case api.Arrived:
				points(t, one, cum, cum+1)
			default:
				points(t, one, cum, cum)
				l := inStates(cum+1, api.Arrived, api.Arrived, of, api.Arrived, api.Given)
				points(t, l, cum, cum+2)
				l = inStates(cum+1, of, api.Given)
				points(t, l, cum, cum)
			}
		}
	}
}

func TestPointSkips(t *testing.T) {
	given := func(number, stream, mid int, ordered bool) api.Sent {
		return part(number, 3, state(api.Given), of(stream, mid, ordered))
	}
	in := func(stream, mid int) api.Skip { return api.Skip{Stream: stream, Mid: mid, Ordered: true} }
	un := func(stream, mid int) api.Skip { return api.Skip{Stream: stream, Mid: mid} }

	// Of a stream, ordered, one, with the last Mid, in the place of the first one.
	l := []api.Sent{given(1, 0, 3, true), given(2, 1, 8, true), given(3, 0, 4, true), given(4, 0, 4, true), given(5, 1, 9, true), given(6, 2, 0, true)}
	for i, want := range [][]api.Skip{nil, {in(0, 3)}, {in(0, 3), in(1, 8)}, {in(0, 4), in(1, 8)}, {in(0, 4), in(1, 8)}, {in(0, 4), in(1, 9)}, {in(0, 4), in(1, 9), in(2, 0)}} {
		points(t, l[:i], 0, i, want...)
	}
	// The last one isn't the greatest one: Mids go round.
	points(t, []api.Sent{given(1, 0, 65535, true), given(2, 0, 0, true)}, 0, 2, in(0, 0))
	points(t, []api.Sent{given(1, 0, 9, true), given(2, 0, 5, true), given(3, 0, 7, true)}, 0, 3, in(0, 7))

	// Unordered ones have each their own; parts of one message have one together.
	points(t, []api.Sent{given(1, 0, 3, false), given(2, 0, 4, false), given(3, 1, 3, false)}, 0, 3, un(0, 3), un(0, 4), un(1, 3))
	points(t, []api.Sent{given(1, 0, 3, false), given(2, 0, 3, false), given(3, 0, 4, false), given(4, 0, 3, false)}, 0, 4, un(0, 3), un(0, 4))

	// Ordered ones and unordered ones of a stream have nothing to do with each other.
	points(t, []api.Sent{given(1, 0, 3, true), given(2, 0, 3, false), given(3, 0, 4, true), given(4, 0, 4, false)}, 0, 4, in(0, 4), un(0, 3), un(0, 4))
	points(t, []api.Sent{given(1, 0, 3, false), given(2, 0, 3, true), given(3, 0, 3, false)}, 0, 3, un(0, 3), in(0, 3))

	// What has Arrived is gone past, and not skipped.
	l = []api.Sent{given(1, 0, 3, true), part(2, 3, state(api.Arrived), of(0, 9, true)), given(3, 1, 1, false), part(4, 3, state(api.Arrived), of(2, 2, false)), part(5, 3)}
	points(t, l, 0, 4, in(0, 3), un(1, 1))
	points(t, l[1:], 1, 4, un(1, 1))
	points(t, l[3:], 3, 4)
	points(t, l[4:], 4, 4)
}

// It stops ahead of what would be a skip too many, and not ahead of what needs none.
func TestPointOfManySkips(t *testing.T) {
	var l []api.Sent
	var want []api.Skip
	for i := range api.MaxSkips {
		ordered := i < 4
		l = append(l, part(i+1, 1, state(api.Given), of(i%4, i, ordered)))
		want = append(want, api.Skip{Stream: i % 4, Mid: i, Ordered: ordered})
		points(t, l, 0, i+1, want...)
	}
	full := api.MaxSkips
	next := full + 1
	for _, none := range []func(*api.Sent){state(api.Arrived), of(1, 5, false), of(0, 4, false)} {
		points(t, append(slices.Clip(l), part(next, 1, state(api.Given), none)), 0, next, want...)
	}
	again := slices.Clone(want)
	again[2].Mid = 77
	points(t, append(slices.Clip(l), part(next, 1, state(api.Given), of(2, 77, true))), 0, next, again...)
	for _, more := range []func(*api.Sent){of(0, 0, false), of(0, 5, false), of(4, 0, true), of(-1, 5, true)} {
		over := append(slices.Clip(l), part(next, 1, state(api.Given), more))
		points(t, over, 0, full, want...)
		points(t, append(over, part(next+1, 1, state(api.Arrived))), 0, full, want...)
		points(t, append(over, part(next+1, 1, state(api.Given), of(0, 99, true))), 0, full, want...)
	}
	arrived := append(slices.Clip(l), part(next, 1, state(api.Arrived)), part(next+1, 1, state(api.Given), of(0, 9, false)))
	points(t, arrived, 0, next, want...)
}

// Part 1 has come, 2 has not: part 1 is gone from the score.
func TestPartOneIsGone(t *testing.T) {
	l := flying(1, 2)
	sacks(t, l, 0, told(1), 1, answer{l[1:], 1, []int{1}, nil})
}

func TestSackGoesOn(t *testing.T) {
	for _, cum := range []int{0, 4, -3, 32767, 65533, 65535, -65536, 1 << 40, -1 << 40} {
		l := flying(cum+1, 5)
		for n := range 6 {
			sacks(t, l, cum, told(cum+n), 1, answer{l[n:], cum + n, []int{1<<n - 1}, nil})
		}
	}
}

// Nothing comes of what is below cum, or above the last part, whatever its spans.
func TestSackOfOthers(t *testing.T) {
	for _, cum := range []int{0, 4, -3, 32767, 65533, 65535, -65536, 1 << 40, -1 << 40} {
		for many := range 4 {
			l := flying(cum+1, many)
			for _, n := range []int{-1, -2, -100, -32767, many + 1, many + 2, many + 100, 32767, 32768} {
				for _, spans := range [][]int{nil, {1, 1}, {2, 9}, {-40000, 40000}} {
					sacks(t, l, cum, told(cum+n, spans...), 2, answer{l, cum, []int{0, 0}, nil})
				}
			}
		}
		sacks(t, nil, cum, told(cum), 2, answer{nil, cum, []int{0, 0}, nil})
		sacks(t, nil, cum, told(cum, 2, 3), 2, answer{nil, cum, []int{0, 0}, nil})
	}
}

// A number is Near cum by its Tag, whatever it is.
func TestSackOfAnyTag(t *testing.T) {
	l := flying(65535, 4)
	for tag, want := range map[int]int{65534: 65534, 65535: 65535, 0: 65536, 1: 65537, 2: 65538, 3: 65534, 65533: 65534, 32766: 65534, 32767: 65534,
		65536: 65536, 65538: 65538, -1: 65535, -65536: 65536, math.MaxInt: 65535, math.MinInt: 65536} {
		n := want - 65534
		sacks(t, l, 65534, api.Chunk{Kind: api.ChSack, Tag: tag}, 1, answer{l[n:], want, []int{1<<n - 1}, nil})
	}
}

// As many tags as there are: what is more than half of them above cum is below it.
func TestSackOfMoreThanHalfOfTags(t *testing.T) {
	const cum, half = 70000, api.MaxTag / 2
	l := make([]api.Sent, half+9)
	for i := range l {
		l[i] = part(cum+1+i, 1)
	}
	for above, gone := range map[int]int{half - 1: half - 1, half: half, half + 1: 0, half + 2: 0, half + 9: 0} {
		got := sack(l, cum, told(cum+above), 1)
		if got.now != cum+gone || len(got.out) != len(l)-gone || !slices.Equal(got.come, []int{gone}) || len(got.lost) != 0 {
			t.Errorf("%d above cum: now %d, %d parts, %v have come, %v are lost", above, got.now, len(got.out), got.come, got.lost)
		}
	}
}

// after is l with these states and what was missed of them.
func after(l []api.Sent, pairs ...int) []api.Sent {
	out := slices.Clone(l)
	for i := range out {
		out[i].State, out[i].Missed = pairs[2*i], pairs[2*i+1]
	}
	return out
}

const (
	fly  = api.InFlight
	here = api.Arrived
	lost = api.Lost
	gave = api.Given
)

func TestSackOfSpans(t *testing.T) {
	l := flying(11, 5)
	for _, x := range []struct {
		n     int
		spans []int
		come  int
		want  []int
	}{
		{10, []int{2, 2}, 2, []int{fly, 1, here, 0, fly, 0, fly, 0, fly, 0}},
		{10, []int{2, 3}, 6, []int{fly, 1, here, 0, here, 0, fly, 0, fly, 0}},
		{10, []int{5, 5}, 16, []int{fly, 1, fly, 1, fly, 1, fly, 1, here, 0}},
		{10, []int{2, 2, 4, 5}, 26, []int{fly, 1, here, 0, fly, 1, here, 0, here, 0}},
		{10, []int{4, 5, 2, 2}, 26, []int{fly, 1, here, 0, fly, 1, here, 0, here, 0}}, // any spans
		{10, []int{4, 5, 4, 4, 5, 4}, 24, []int{fly, 1, fly, 1, fly, 1, here, 0, here, 0}},
		{10, []int{1, 1}, 1, []int{here, 0, fly, 0, fly, 0, fly, 0, fly, 0}},
		{10, []int{1, 5}, 31, []int{here, 0, here, 0, here, 0, here, 0, here, 0}},
		{10, []int{6, 9}, 0, []int{fly, 0, fly, 0, fly, 0, fly, 0, fly, 0}},
		{10, []int{-9, 0}, 0, []int{fly, 0, fly, 0, fly, 0, fly, 0, fly, 0}},
		{10, []int{math.MinInt, math.MaxInt}, 31, []int{here, 0, here, 0, here, 0, here, 0, here, 0}},
		{12, []int{2, 2}, 11, []int{fly, 1, here, 0, fly, 0}},
		{12, []int{3, 3}, 19, []int{fly, 1, fly, 1, here, 0}},
		{12, []int{-1, 0}, 3, []int{fly, 0, fly, 0, fly, 0}},
		{15, []int{2, 5}, 31, nil},
	} {
		left := after(l[x.n-10:], x.want...)
		sacks(t, l, 10, told(x.n, x.spans...), 1, answer{left, x.n, []int{x.come}, nil})
	}
}

// Only what was in flight, or lost, arrives, and brings bytes; only such a one has others be missed.
func TestSackOfStates(t *testing.T) {
	for _, of := range states {
		l := []api.Sent{part(1, 1), part(2, 2, state(of), missed(1)), part(3, 4)}
		news := of == fly || of == lost
		want := answer{after(l, fly, 0, of, 1, fly, 0), 0, []int{0}, nil}
		if news {
			want = answer{after(l, fly, 1, here, 1, fly, 0), 0, []int{2}, nil}
		}
		sacks(t, l, 0, told(0, 2, 2), 1, want)

		up := answer{l[2:], 2, []int{1}, nil}
		if news {
			up.come = []int{3}
		}
		sacks(t, l, 0, told(2), 1, up)
	}
}

// Of those that have not come only what is in flight is missed: below the highest one, not above it.
func TestSackMissesWhatFlies(t *testing.T) {
	for _, of := range states {
		for before := range 5 {
			l := []api.Sent{part(1, 1, state(of), missed(before)), part(2, 2), part(3, 4, state(of), missed(before))}
			want := answer{after(l, of, before, here, 0, of, before), 0, []int{2}, nil}
			if of == fly {
				want.out[0].Missed++
				if before >= 2 {
					want.out[0].State, want.lost = lost, []int{1}
				}
			}
			sacks(t, l, 0, told(0, 2, 2), 1, want)
		}
	}
}

func TestSackLosesAtThree(t *testing.T) {
	for before, now := range map[int]int{math.MinInt: fly, -1: fly, 0: fly, 1: fly, 2: lost, 3: lost, 4: lost, 1000: lost, math.MaxInt - 1: lost} {
		l := []api.Sent{part(65536, 1, missed(before)), part(65537, 2), part(65538, 4, missed(before)), part(65539, 8), part(65540, 16, missed(before))}
		want := answer{after(l, now, before+1, here, 0, now, before+1, here, 0, fly, before), 65535, []int{10}, nil}
		if now == lost {
			want.lost = []int{65536, 65538}
		}
		sacks(t, l, 65535, told(65535, 2, 2, 4, 4), 1, want)
	}
}

// Three sacks, each of a part more behind it, and a part is lost; once more, and it is not lost again, until it comes.
func TestSackBySack(t *testing.T) {
	l := flying(1, 6)
	now, cum := l, 0
	for i, x := range []struct {
		c    api.Chunk
		want answer
	}{
		{told(0, 2, 2), answer{after(l, fly, 1, here, 0, fly, 0, fly, 0, fly, 0, fly, 0), 0, []int{2}, nil}},
		{told(0, 2, 2), answer{after(l, fly, 1, here, 0, fly, 0, fly, 0, fly, 0, fly, 0), 0, []int{0}, nil}}, // told twice is told once
		{told(0, 2, 2, 4, 4), answer{after(l, fly, 2, here, 0, fly, 1, here, 0, fly, 0, fly, 0), 0, []int{8}, nil}},
		{told(0, 2, 2, 4, 5), answer{after(l, lost, 3, here, 0, fly, 2, here, 0, here, 0, fly, 0), 0, []int{16}, []int{1}}},
		{told(0, 2, 2, 4, 6), answer{after(l, lost, 3, here, 0, lost, 3, here, 0, here, 0, here, 0), 0, []int{32}, []int{3}}},
		{told(0), answer{after(l, lost, 3, here, 0, lost, 3, here, 0, here, 0, here, 0), 0, []int{0}, nil}}, // what has come has come
		{told(2, 2, 4), answer{after(l[2:], lost, 3, here, 0, here, 0, here, 0), 2, []int{1}, nil}},
		{told(0, 2, 2), answer{after(l[2:], lost, 3, here, 0, here, 0, here, 0), 2, []int{0}, nil}}, // it comes late
		{told(6), answer{nil, 6, []int{4}, nil}},
		{told(6), answer{nil, 6, []int{0}, nil}},
	} {
		got := sack(now, cum, x.c, 1)
		if !got.is(x.want) {
			t.Fatalf("sack %d: %+v, not %+v", i, got, x.want)
		}
		now, cum = got.out, got.now
	}
}

// A part that is lost, or has come after it was, has those below it be missed as any other one.
func TestSackOfLostOnes(t *testing.T) {
	l := []api.Sent{part(1, 1, missed(2)), part(2, 2, state(lost), missed(3)), part(3, 4)}
	sacks(t, l, 0, told(0, 2, 2), 1, answer{after(l, lost, 3, here, 3, fly, 0), 0, []int{2}, []int{1}})
	sacks(t, l, 0, told(0, 3, 3), 1, answer{after(l, lost, 3, lost, 3, here, 0), 0, []int{4}, []int{1}})
	sacks(t, l, 0, told(1, 2, 2), 1, answer{after(l[1:], lost, 3, here, 0), 1, []int{5}, nil})
}

// Bytes come of the path on which a part is, of as many paths as there are.
func TestSackOfPaths(t *testing.T) {
	l := flying(1, 6)
	for i, p := range []int{1, 0, 1, 2, 0, 1} {
		l[i].Path = p
	}
	c := told(2, 2, 3)
	left := after(l[2:], fly, 1, here, 0, here, 0, fly, 0)
	for paths, come := range map[int][]int{3: {18, 1, 8}, 4: {18, 1, 8, 0}, 5: {18, 1, 8, 0, 0}} {
		sacks(t, l, 0, c, paths, answer{left, 2, come, nil})
	}
	for paths := range 5 {
		sacks(t, nil, 0, told(0), paths, answer{nil, 0, make([]int, paths), nil})
		sacks(t, nil, 0, told(1), paths, answer{nil, 0, make([]int, paths), nil})
	}
}

// wanted is what Sack must answer, as the chapter words it, n being what is told.
func wanted(l []api.Sent, cum, n int, spans []api.Span, paths int) answer {
	nothing := answer{l, cum, make([]int, paths), nil}
	if n < cum || n > cum+len(l) {
		return nothing
	}
	var news []int // those that were waited for, and have come
	for i, s := range l {
		above := cum + 1 + i - n
		come := above <= 0
		for _, span := range spans {
			if span.From <= above && above <= span.To {
				come = true
			}
		}
		if come && (s.State == fly || s.State == lost) {
			news = append(news, i)
		}
	}
	got := answer{slices.Clone(l), n, make([]int, paths), nil}
	for _, i := range news {
		got.out[i].State = here
		got.come[l[i].Path] += len(l[i].Chunk.Data)
	}
	for i := n - cum; i < len(l) && len(news) > 0; i++ {
		s := &got.out[i]
		if s.State == fly && i < news[len(news)-1] {
			s.Missed++
			if s.Missed > 2 {
				s.State = lost
				got.lost = append(got.lost, cum+1+i)
			}
		}
	}
	got.out = got.out[n-cum:]
	return got
}

// All lists of up to 4 parts, in all states, of whatever has come of them, at the place where tags go round.
func TestSackOfAllLists(t *testing.T) {
	kinds := [][2]int{{fly, 0}, {fly, 1}, {fly, 2}, {fly, 3}, {here, 2}, {lost, 2}, {gave, 2}}
	const cum = 65533
	for many := range 5 {
		l := flying(cum+1, many)
		for i := range l {
			l[i].Path = i % 2
		}
		eachList(many, len(kinds), func(of []int) {
			for i, k := range of {
				l[i].State, l[i].Missed = kinds[k][0], kinds[k][1]
			}
			for n := cum - 1; n <= cum+many+1; n++ {
				for set := range 1 << (many + 1) {
					c := told(n)
					for i := range many + 1 {
						if set>>i&1 == 1 {
							c.Spans = append(c.Spans, api.Span{From: i + 1, To: i + 1})
						}
					}
					if got, want := sack(l, cum, c, 2), wanted(l, cum, n, c.Spans, 2); !got.is(want) {
						t.Fatalf("Sack(%+v, %d, %+v, 2) = %+v, not %+v", l, cum, c, got, want)
					}
				}
			}
		})
	}
}

// eachList calls do with all lists of n numbers from 0 to below end.
func eachList(n, end int, do func([]int)) {
	l := make([]int, n)
	var fill func(i int)
	fill = func(i int) {
		if i == n {
			do(l)
			return
		}
		for l[i] = 0; l[i] < end; l[i]++ {
			fill(i + 1)
		}
	}
	fill(0)
}

// wantedPoint is what Point must answer, as the chapter words it: the longest beginning of l of which all may be gone past, with few enough skips.
func wantedPoint(l []api.Sent, cum int) (int, []api.Skip) {
	for many := len(l); many > 0; many-- {
		skips, ok := skipsOf(l[:many])
		if ok && len(skips) <= api.MaxSkips {
			return l[many-1].Number, skips
		}
	}
	return cum, nil
}

// skipsOf are the skips of all of l, and whether all of it may be gone past.
func skipsOf(l []api.Sent) ([]api.Skip, bool) {
	type key struct {
		stream, mid int
		ordered     bool
	}
	var order []key
	lastMid := map[key]int{}
	for _, s := range l {
		if s.State != gave && s.State != here {
			return nil, false
		}
		if s.State == here {
			continue
		}
		k := key{s.Chunk.Stream, s.Chunk.Mid, s.Chunk.Ordered}
		if k.ordered {
			k.mid = 0
		}
		if _, had := lastMid[k]; !had {
			order = append(order, k)
		}
		lastMid[k] = s.Chunk.Mid
	}
	var out []api.Skip
	for _, k := range order {
		out = append(out, api.Skip{Stream: k.stream, Mid: lastMid[k], Ordered: k.ordered})
	}
	return out, true
}

// All lists of up to 5 parts that are Given, of 2 streams and 2 Mids, in order or not, or Arrived, or neither.
func TestPointOfAllLists(t *testing.T) {
	for many := range 6 {
		l := flying(8, many)
		eachList(many, 10, func(kinds []int) {
			for i, k := range kinds {
				l[i].State = gave
				if k >= 8 {
					l[i].State = here + k - 8
				}
				of(k&1, k>>1&1, k>>2&1 == 1)(&l[i])
			}
			want, skips := wantedPoint(l, 7)
			points(t, l, 7, want, skips...)
		})
	}
}
