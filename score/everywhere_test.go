package score

import (
	"math"
	"slices"
	"testing"

	"braidline/api"
)

var odd = []int{math.MinInt, math.MinInt + 1, -65536, -1, 0, 1, 2, 3, 4, 65536, math.MaxInt - 1, math.MaxInt}

// Z1: however many paths are asked for, Sack answers; none, below 0; beyond what is promised, too.
func TestNoNumberOfPathsPanics(t *testing.T) {
	l := flying(1, 3)
	for _, paths := range append(odd, math.MaxInt/8, math.MaxInt/8+1, math.MaxInt32+1, math.MaxInt/2) {
		for _, n := range []int{-1, 0, 1, 3, 4} {
			got := sack(l, 0, told(n), paths)
			gone := n
			if n < 0 || n > 3 {
				gone = 0
			}
			if got.now != gone || !same(got.out, l[gone:]) || len(got.lost) != 0 {
				t.Errorf("Sack of %d, of %d paths: %+v", n, paths, got)
			}
			if paths <= 65536 && len(got.come) != max(paths, 0) {
				t.Errorf("Sack of %d, of %d paths: bytes of %d", n, paths, len(got.come))
			}
			if len(got.come) > 0 && (got.come[0] != 1<<gone-1 || slices.ContainsFunc(got.come[1:], func(n int) bool { return n != 0 })) {
				t.Errorf("Sack of %d, of %d paths: bytes of the first one %d", n, paths, got.come[0])
			}
		}
	}
}

// Z1: whatever stands in parts, and wherever cum is, all calls answer, and the same again.
func TestNothingPanics(t *testing.T) {
	for _, a := range odd {
		for _, b := range odd {
			for _, c := range odd {
				l := []api.Sent{
					{Number: a, ID: b, State: c, Path: a, Missed: b},
					{Number: b, ID: c, State: fly, Path: c, Missed: a, Chunk: api.Chunk{Data: []byte("ab")}},
					{Number: c, ID: a, State: gave, Path: b, Missed: c, Chunk: api.Chunk{Stream: a, Mid: b}},
					{Number: 2, State: lost, Chunk: api.Chunk{Data: []byte("abcd")}},
					{Number: 3, State: fly, Missed: c, Chunk: api.Chunk{Data: []byte("abcdefgh")}},
				}
				sack := api.Chunk{Kind: a, Tag: b, Room: c, Spans: []api.Span{{From: a, To: b}, {From: c, To: a}, {From: b, To: c}}}
				for end := range len(l) + 1 {
					goesTheSame(t, l[:end], a, b, sack)
					goesTheSame(t, l[end:], 1, 2, sack)
				}
			}
		}
	}
}

// goesTheSame: all calls answer each time the same.
func goesTheSame(t *testing.T, l []api.Sent, cum, n int, c api.Chunk) {
	t.Helper()
	// No more paths than are needed to see it.
	paths := min(n, 5)
	if got, again := sack(l, cum, c, paths), sack(l, cum, c, paths); !got.is(again) || len(got.come) != max(paths, 0) || len(got.out) > len(l) {
		t.Fatalf("Sack(%+v, %d, %+v, %d) = %+v, then %+v", l, cum, c, paths, got, again)
	}
	for name, call := range map[string]func() []api.Sent{
		"Own":  func() []api.Sent { return Own(l) },
		"Give": func() []api.Sent { return Give(l, n) },
		"Late": func() []api.Sent { return Late(l, n) },
	} {
		if got := call(); !same(got, call()) || len(got) != len(l) {
			t.Fatalf("%s(%+v), of %d, is %+v, then %+v", name, l, n, got, call())
		}
	}
	if Flight(l, n) != Flight(l, n) {
		t.Fatalf("Flight(%+v, %d) = %d, then %d", l, n, Flight(l, n), Flight(l, n))
	}
	want, skips := wantedPoint(l, cum)
	points(t, l, cum, want, skips...)
}

// made are parts from cum + 1 on, each of two bytes of b: the first one has its state, its path and what was missed, the second one its message.
func made(cum int, b []byte) []api.Sent {
	var l []api.Sent
	for two := range slices.Chunk(b, 2) {
		a, z := int(two[0]), int(two[len(two)-1])
		l = append(l, part(cum+1+len(l), 1+z%16, state(a%6), path(a/6%2), missed(a/12%5), id(z%4), of(z/4%4, z/16%4, z >= 128)))
	}
	return l
}

// FuzzSack is run on its seeds by go test, and on more by go test -fuzz.
func FuzzSack(f *testing.F) {
	for n := range 9 {
		f.Add(65533, n-1, []byte{1, 1, 7, 2, 25, 3, 3, 4, 2, 5, 4, 6, 31, 7}, []byte{2, 2, 4, 5})
		f.Add(-3, n-1, []byte{25, 0, 25, 1, 25, 2, 25, 3, 1, 4, 7, 5}, []byte{5, 5, 2, 3})
		f.Add(0, n-1, []byte{}, []byte{0, 255})
	}
	f.Fuzz(func(t *testing.T, cum, above int, b, spans []byte) {
		cum %= 1 << 40
		l := made(cum, b)
		above %= 32768
		c := told(cum + above)
		for two := range slices.Chunk(spans, 2) {
			c.Spans = append(c.Spans, api.Span{From: int(int8(two[0])), To: int(int8(two[len(two)-1]))})
		}
		sacks(t, l, cum, c, 2, wanted(l, cum, cum+above, c.Spans, 2))
	})
}

// FuzzPoint is run likewise; three states in four are such that it goes on.
func FuzzPoint(f *testing.F) {
	f.Add(65533, []byte{4, 1, 4, 17, 4, 33, 2, 5, 4, 130, 4, 146})
	f.Add(-3, []byte{4, 0, 4, 4, 4, 8, 4, 12, 4, 16, 4, 20, 4, 24, 4, 28, 4, 32})
	f.Add(0, []byte{2, 0, 1, 0, 4, 0})
	f.Add(7, []byte{})
	f.Fuzz(func(t *testing.T, cum int, b []byte) {
		cum %= 1 << 40
		l := made(cum, b)
		for i := range l {
			if b[2*i] >= 64 {
				l[i].State = here + 2*int(b[2*i]&1)
			}
		}
		want, skips := wantedPoint(l, cum)
		points(t, l, cum, want, skips...)
	})
}

// spacious are four parts: in flight, given, in flight, lost; and a sack of which the last one has come. All of their lists have spare room with something in it: parts that would be gone on to, and a span that has all of them.
func spacious() ([]api.Sent, api.Chunk) {
	var l []api.Sent
	for i, of := range []int{fly, gave, fly, lost, gave, fly, here} {
		s := part(11+i, 0, state(of), path(i%2), missed(2), id(i%3))
		s.Times, s.Came, s.Life, s.Tries = i, i+1, i+2, i+3
		s.Chunk.Stream, s.Chunk.Mid, s.Chunk.Part = i%4, i, i%3
		s.Chunk.Data = []byte("hello, there")[:5]
		s.Chunk.Spans = []api.Span{{From: 2, To: 3}, {From: 77, To: 78}}[:1]
		s.Chunk.Skips = []api.Skip{{Stream: 1, Mid: 2}, {Stream: 77}}[:1]
		l = append(l, s)
	}
	c := told(10, 4, 4, 1, 9)
	c.Spans = c.Spans[:1]
	c.Data = []byte("hello, there")[:5]
	c.Skips = []api.Skip{{Stream: 1, Mid: 2}, {Stream: 77}}[:1]
	return l[:4], c
}

// intact tells whether l, c and all spare room in them are as spacious made them.
func intact(l []api.Sent, c api.Chunk) bool {
	roomToo := func(l []api.Sent, c api.Chunk) []api.Sent {
		out := append(slices.Clone(l[:7]), api.Sent{Chunk: c})
		for i := range out {
			c := &out[i].Chunk
			c.Data, c.Spans, c.Skips = c.Data[:12], c.Spans[:2], c.Skips[:2]
		}
		return out
	}
	return same(roomToo(l, c), roomToo(spacious()))
}

// overwrite changes what l has, and its spare room, but first what is in its lists, and their spare room.
func overwrite(l []api.Sent) {
	all := l[:cap(l)]
	for i := range all {
		overwriteChunk(all[i].Chunk)
		all[i] = api.Sent{Number: 201, State: 201}
	}
}

func overwriteChunk(c api.Chunk) {
	fill(c.Data, 201)
	fill(c.Spans, api.Span{From: 201, To: 201})
	fill(c.Skips, api.Skip{Stream: 201, Mid: 201})
}

func fill[T any](l []T, x T) {
	l = l[:cap(l)]
	for i := range l {
		l[i] = x
	}
}

// calls are all calls that answer parts.
var calls = map[string]func([]api.Sent, api.Chunk) []api.Sent{
	"Own":             func(l []api.Sent, _ api.Chunk) []api.Sent { return Own(l) },
	"Give":            func(l []api.Sent, _ api.Chunk) []api.Sent { return Give(l, 0) },
	"Give of nothing": func(l []api.Sent, _ api.Chunk) []api.Sent { return Give(l, 9) },
	"Late":            func(l []api.Sent, _ api.Chunk) []api.Sent { return Late(l, 0) },
	"Late of nothing": func(l []api.Sent, _ api.Chunk) []api.Sent { return Late(l, 9) },
	"Sack":            func(l []api.Sent, c api.Chunk) []api.Sent { return sack(l, 10, c, 2).out },
	"Sack of more": func(l []api.Sent, c api.Chunk) []api.Sent {
		c.Tag = 12
		return sack(l, 10, c, 2).out
	},
	"Sack of all": func(l []api.Sent, c api.Chunk) []api.Sent {
		c.Tag = 14
		return sack(l, 10, c, 2).out
	},
	"Sack of what is old": func(l []api.Sent, c api.Chunk) []api.Sent {
		c.Tag = 9
		return sack(l, 10, c, 2).out
	},
	"Sack of what is not there": func(l []api.Sent, c api.Chunk) []api.Sent {
		c.Tag = 15
		return sack(l, 10, c, 2).out
	},
}

// Z2: parts, the sack, their lists, and the spare room behind all of them are neither changed nor kept; what is answered is the caller's.
func TestAllIsOnlyRead(t *testing.T) {
	for name, call := range calls {
		l, c := spacious()
		got := call(l, c)
		want := call(spacious())
		if !intact(l, c) {
			t.Errorf("%s: of what was handed in is left: %+v, %+v", name, l, c)
		}
		overwrite(l)
		overwriteChunk(c)
		if !same(got, want) {
			t.Errorf("%s: with what was handed in the answer changes: %+v, not %+v", name, got, want)
		}
		l, c = spacious()
		got = call(l, c)
		overwrite(got)
		if !intact(l, c) {
			t.Errorf("%s: with the answer changes what was handed in: %+v, %+v", name, l, c)
		}
	}
	l, c := spacious()
	Flight(l, 0)
	Point(l, 10)
	Point(l[1:], 11)
	if !intact(l, c) {
		t.Errorf("of what was handed in is left: %+v, %+v", l, c)
	}
}

// Z2: no two lists of one answer share memory, if those that were handed in do, too.
func TestAnswersShareNothing(t *testing.T) {
	b := []byte("abcd")
	spans := []api.Span{{From: 2, To: 3}}
	skips := []api.Skip{{Stream: 1}}
	for name, call := range calls {
		l := flying(11, 4)
		for i := range l {
			l[i].Chunk.Data, l[i].Chunk.Spans, l[i].Chunk.Skips = b, spans, skips
		}
		got := call(l, told(10, 2, 2))
		for i := range got {
			overwriteChunk(got[i].Chunk)
			for _, s := range got[i+1:] {
				if string(s.Chunk.Data) != "abcd" || s.Chunk.Spans[0].From != 2 || s.Chunk.Skips[0].Stream != 1 {
					t.Errorf("%s: with part %d others change: %+v", name, i, got)
				}
			}
		}
	}
}

// Z2: numbers and skips that are answered are the caller's: what it does with them is not seen by the next one.
func TestNumbersAreNew(t *testing.T) {
	for range 2 {
		l, c := spacious()
		got := sack(l, 10, c, 2)
		if !slices.Equal(got.come, []int{0, 5}) || !slices.Equal(got.lost, []int{11, 13}) {
			t.Fatalf("bytes %v have come, and lost are %v", got.come, got.lost)
		}
		k, skips := Point(l[1:], 11)
		if k != 12 || !slices.Equal(skips, []api.Skip{{Stream: 1, Mid: 1}}) {
			t.Fatalf("Point is %d, %v", k, skips)
		}
		fill(got.come, 201)
		fill(got.lost, 201)
		fill(skips, api.Skip{Stream: 201})
		c.Tag = 9
		fill(sack(l, 10, c, 2).come, 201)
		if c.Tag = 10; !intact(l, c) {
			t.Fatalf("with numbers that were answered changes what was handed in: %+v, %+v", l, c)
		}
	}
}

// Spare room is not looked at: parts that stand there are none, nor have spans there a number.
func TestSpareRoomIsNotRead(t *testing.T) {
	l, c := spacious()
	sacks(t, l, 10, c, 2, answer{after(l, lost, 3, gave, 2, lost, 3, here, 2), 10, []int{0, 5}, []int{11, 13}})
	sacks(t, l[:3], 10, c, 2, answer{l[:3], 10, []int{0, 0}, nil})
	sacks(t, l[:3], 10, told(14), 2, answer{l[:3], 10, []int{0, 0}, nil})
	sacks(t, l[:0], 10, told(11), 2, answer{nil, 10, []int{0, 0}, nil})
	points(t, l[1:2], 11, 12, api.Skip{Stream: 1, Mid: 1})
	points(t, l[:0], 10, 10)
	more := inStates(1, gave, here, gave)
	points(t, more[:2], 0, 2, api.Skip{})
	if got := Flight(l, 0); got != 10 {
		t.Errorf("on path 0 are %d bytes", got)
	}
	if got := Flight(l[:1], 0); got != 5 {
		t.Errorf("of the first part are on path 0 %d bytes", got)
	}
}

// Z3: lists that are nil, and lists without entries, are the same.
func TestNilIsEmpty(t *testing.T) {
	for _, none := range [][]api.Sent{nil, {}, flying(1, 2)[:0]} {
		for name, got := range map[string][]api.Sent{"Own": Own(none), "Give": Give(none, 0), "Late": Late(none, 0)} {
			if len(got) != 0 {
				t.Errorf("%s of nothing is %+v", name, got)
			}
		}
		sacks(t, none, 0, told(0), 1, answer{nil, 0, []int{0}, nil})
		sacks(t, none, 0, told(1, 1, 2), 1, answer{nil, 0, []int{0}, nil})
		points(t, none, 3, 3)
		if got := Flight(none, 0); got != 0 {
			t.Errorf("Flight of nothing is %d", got)
		}
	}
	for _, none := range [][]api.Span{nil, {}, []api.Span{{From: 1, To: 3}}[:0]} {
		l := flying(1, 3)
		sacks(t, l, 0, api.Chunk{Kind: api.ChSack, Tag: 1, Spans: none}, 1, answer{l[1:], 1, []int{1}, nil})
	}
	for _, none := range [][]byte{nil, {}, []byte("abc")[:0]} {
		l := flying(1, 3)
		l[1].Chunk.Data = none
		if got := Flight(l, 0); got != 5 {
			t.Errorf("Flight with a part without bytes is %d", got)
		}
		sacks(t, l, 0, told(0, 2, 2), 1, answer{after(l, fly, 1, here, 0, fly, 0), 0, []int{0}, nil}) // it has come, all the same
		sacks(t, l, 0, told(2), 1, answer{l[2:], 2, []int{1}, nil})
	}
}

// Fields of parts and of the sack that the chapter does not name mean nothing, and those of parts stay as they were.
func TestFieldsThatAreNotNamed(t *testing.T) {
	plain := []api.Sent{part(1, 1, missed(2)), part(2, 2, id(1), state(gave)), part(3, 4, path(1)), part(4, 8, state(lost))}
	for _, n := range odd {
		full := slices.Clone(plain)
		for i := range full {
			s := &full[i]
			s.Times, s.Came, s.Life, s.Tries = n, n-i, n+i, n
			s.Chunk.Kind, s.Chunk.Tag, s.Chunk.Part, s.Chunk.Room, s.Chunk.Last = n, n+i, n-i, n, i%2 == 0
			s.Chunk.Spans, s.Chunk.Skips = make([]api.Span, i), make([]api.Skip, i)
		}
		for tag := range 6 {
			c := told(tag, 2, 2)
			want := sack(plain, 0, c, 2)
			for i := range want.out {
				state, missed := want.out[i].State, want.out[i].Missed
				want.out[i] = full[len(full)-len(want.out)+i]
				want.out[i].State, want.out[i].Missed = state, missed
			}
			c.Stream, c.Mid, c.Part, c.Room = n, n, n, n
			c.Last, c.Ordered, c.Data, c.Skips = true, true, []byte("abc"), make([]api.Skip, 9)
			sacks(t, full, 0, c, 2, want)
		}
		changed(t, "Give", full, Give(full, 0), []int{gave, gave, gave, gave})
		changed(t, "Late", full, Late(full, 1), []int{fly, gave, lost, lost})
		if got := Flight(full, 1); got != 4 {
			t.Errorf("Flight is %d", got)
		}
		points(t, full[1:], 1, 2, api.Skip{})
	}
}

// Many parts are told of at once: half of them are gone, and of the others two have not come.
func TestManyParts(t *testing.T) {
	const many = 1 << 14
	l := make([]api.Sent, many)
	for i := range l {
		l[i] = part(i, 1, path(i%2), missed(2))
	}
	got := sack(l, -1, told(many/2-1, 2, 2, 4, many), 2)
	if got.now != many/2-1 || len(got.out) != many/2 || !slices.Equal(got.come, []int{many/2 - 2, many / 2}) || !slices.Equal(got.lost, []int{many / 2, many/2 + 2}) {
		t.Errorf("now %d, %d parts, %v have come, %v are lost", got.now, len(got.out), got.come, got.lost)
	}
	if got := Flight(Late(l, 1), 0); got != many/2 {
		t.Errorf("%d bytes are on path 0", got)
	}
	for i := range l {
		of(i%api.MaxStreams, i, true)(&l[i])
	}
	points(t, Give(l, 0), -1, many-1, api.Skip{Mid: many - 4, Ordered: true}, api.Skip{Stream: 1, Mid: many - 3, Ordered: true},
		api.Skip{Stream: 2, Mid: many - 2, Ordered: true}, api.Skip{Stream: 3, Mid: many - 1, Ordered: true})
}
