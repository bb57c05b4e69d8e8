package receive

import (
	"math"
	"slices"
	"strings"
	"testing"

	"braidline/api"
	"braidline/chunk"
)

var odd = []int{math.MinInt, math.MinInt + 1, -65536, -1, 0, 1, 2, 3, 4, 65535, 65536, 70002, math.MaxInt - 1, math.MaxInt}

// Z1: whatever numbers stand in chunks, Data and Forward answer, and as the chapter has it.
func TestOddChunks(t *testing.T) {
	c := api.Config{Streams: 3, First: 70000}
	for _, a := range odd {
		for _, b := range odd {
			r, m := New(c), newModel(c)
			for _, x := range []api.Chunk{
				ordered(70001, 0, a, b, "a"), ordered(70002, 0, a, 0, "b."), loose(70003, 1, a, b, "c."), loose(70004, 1, a, 0, "d"), loose(70005, 1, a, 1, "e."),
				ordered(a, 2, b, 0, "f."), loose(b, 2, a, 0, "g."), forward(70002, without(1, a), without(0, b), upTo(1, a), upTo(2, b)),
				forward(70006, upTo(a, b), without(a, b), without(b, a), upTo(0, a), upTo(0, b)), forward(a, upTo(2, a)), forward(b, upTo(2, b)), {Kind: a, Tag: b}, {Kind: b, Tag: a},
			} {
				r = m.come(t, r, x)
			}
		}
	}
}

// Z1: whatever stands in a config, New answers, and so do all calls on what it answers.
func TestOddConfigs(t *testing.T) {
	for _, a := range append(odd, math.MaxInt32+1, math.MaxInt/8, math.MaxInt/8+1, math.MaxInt/2) {
		for _, first := range odd {
			c := api.Config{Streams: a, Part: first, Packet: a, Paths: first, Turns: a, Waiting: first, First: first}
			r := New(c)
			if r.Config != c || r.Cum != first-1 || len(r.Spans)+len(r.Pieces)+len(r.Log) != 0 || a <= 70002 && len(r.Turn) != max(a, 0) {
				t.Errorf("New(%+v) has Cum %d, and %d turns", c, r.Cum, len(r.Turn))
			}
			if slices.ContainsFunc(r.Turn, func(n int) bool { return n != 0 }) {
				t.Errorf("of New(%+v) a turn is not 0", c)
			}
			goesTheSame(t, r, first)
		}
	}
}

// Z1: receivers that are not of the chapter's making have nothing promised, but no call panics, and all end.
func TestNothingPanics(t *testing.T) {
	for _, a := range odd {
		for _, b := range odd {
			piece := func(mid int) api.Piece { return api.Piece{Number: b, Chunk: ordered(a, 0, mid, 0, "x.")} }
			goesTheSame(t, api.Receiver{Cum: a, Turn: []int{b, a},
				Spans:  []api.Span{{From: a, To: b}, {From: b, To: a}, {From: 3, To: 3}},
				Pieces: []api.Piece{piece(a), piece(b), piece(0), piece(1), piece(65535), piece(65534), piece(65534)},
				Log:    []api.Arrival{{Stream: a, Mid: b}}}, b)
			goesTheSame(t, api.Receiver{Config: api.Config{Streams: b, First: a}, Cum: a}, b)
			goesTheSame(t, api.Receiver{Cum: a, Turn: []int{b}}, b)
		}
	}
}

// goesTheSame: all calls answer each time the same.
func goesTheSame(t *testing.T, r api.Receiver, n int) {
	t.Helper()
	if !same(Own(r), r) || Held(r) != Held(r) || !alike(Sack(r), Sack(r)) {
		t.Fatalf("of %+v are answered: %+v, %d, %+v, then %+v, %d, %+v", r, Own(r), Held(r), Sack(r), Own(r), Held(r), Sack(r))
	}
	for _, c := range []api.Chunk{
		ordered(n, 0, n, 0, "a."), loose(n, 1, n, n, "b"), ordered(r.Cum+1, 0, 0, 0, "c."), loose(r.Cum+2, n, 0, 0, "d."),
		forward(n, upTo(0, n), without(1, n)), forward(r.Cum+1, upTo(0, n), upTo(1, n), upTo(n, 0), upTo(0, 32767), upTo(0, 65533)), {Kind: n, Tag: n},
	} {
		if !same(Data(r, c), Data(r, c)) || !same(Forward(r, c), Forward(r, c)) {
			t.Fatalf("of %+v, to %+v, are answered %+v and %+v, then %+v and %+v", c, r, Data(r, c), Forward(r, c), Data(r, c), Forward(r, c))
		}
	}
}

// made are chunks, of four bytes of b each.
func made(first int, b []byte) []api.Chunk {
	var l []api.Chunk
	for four := range slices.Chunk(b, 4) {
		at := func(i int) int { return int(four[min(i, len(four)-1)]) }
		tag := first + at(1)%24 - 4
		stream, mid := at(2)%4, at(3)%8
		if mid == 7 {
			mid = 32764 + at(3)/8 // far from turns, or just as far as may be
		}
		switch at(0) % 8 {
		case 6:
			l = append(l, forward(tag, api.Skip{Stream: stream, Mid: mid, Ordered: at(2) >= 128}, upTo(at(3)/8%3, at(3)/32)))
		case 7:
			l = append(l, api.Chunk{Kind: at(1), Tag: tag, Stream: stream, Mid: mid, Last: true, Data: []byte("x")})
		default:
			c := ordered(tag, stream, mid, at(0)/8%4, strings.Repeat("abcdefgh", at(1)/24)+"z")
			c.Last, c.Ordered = at(0) >= 128, at(2) >= 64
			l = append(l, c)
		}
	}
	return l
}

// FuzzReceive is run on its seeds by go test, and on more by go test -fuzz.
func FuzzReceive(f *testing.F) {
	f.Add(1, []byte{128, 5, 64, 0, 0, 4, 64, 0, 136, 5, 64, 0, 128, 6, 64, 1})
	f.Add(65535, []byte{128, 6, 65, 1, 6, 4, 129, 0, 128, 5, 65, 0, 7, 1, 1, 1, 0, 20, 2, 7, 14, 22, 130, 7})
	f.Add(-3, []byte{0, 250, 64, 3, 8, 251, 64, 3, 16, 252, 64, 3, 24, 253, 64, 3, 1, 254, 65, 3, 2, 244, 66, 3, 6, 10, 128, 3})
	f.Add(0, []byte{})
	f.Fuzz(func(t *testing.T, first int, b []byte) {
		c := api.Config{Streams: 3, First: first % (1 << 40)}
		r, m := New(c), newModel(c)
		for _, x := range made(c.First, b) {
			r = m.come(t, r, x)
		}
		if got := Held(r); got != len(allBytes(r)) {
			t.Errorf("of %s are held %d bytes", tell(r), got)
		}
	})
}

func allBytes(r api.Receiver) []byte {
	var b []byte
	for _, p := range r.Pieces {
		b = append(b, p.Chunk.Data...)
	}
	return b
}

// spacious is a receiver to which six parts have come, and what may come next: the part that is missing, one more, and a forward. All of their lists have spare room with something in it: were it read, more would have come, be held, or be skipped.
func spacious() (api.Receiver, []api.Chunk) {
	l := []api.Chunk{ordered(1, 0, 0, 0, "a."), ordered(3, 0, 1, 1, "c."), loose(4, 1, 0, 0, "d"), ordered(6, 0, 2, 0, "e."), ordered(8, 1, 1, 0, "f."), loose(9, 1, 1, 0, "g.")}
	next := []api.Chunk{ordered(2, 0, 1, 0, "b"), loose(7, 1, 0, 1, "h."), forward(5, upTo(1, 0), without(1, 0))}
	for _, l := range [][]api.Chunk{l, next} {
		for i := range l {
			l[i].Data = roomy(l[i].Data, '!', '!', '!')
			l[i].Spans = roomy(l[i].Spans, api.Span{From: 77, To: 78})
			l[i].Skips = roomy(l[i].Skips, upTo(0, 5), upTo(1, 5))
		}
	}
	r := after(2, l...)
	r.Spans = roomy(r.Spans, api.Span{From: 7, To: 7}, api.Span{From: 20, To: 30})
	r.Turn = roomy(r.Turn, 0, 0)
	for i := range r.Pieces {
		c := &r.Pieces[i].Chunk
		c.Data, c.Spans, c.Skips = roomy(c.Data, '!', '!'), roomy([]api.Span{{From: 2, To: 3}}, api.Span{From: 77}), roomy([]api.Skip{upTo(0, 1)}, upTo(0, 5))
	}
	r.Pieces = roomy(r.Pieces, api.Piece{Number: 2, Chunk: ordered(2, 0, 1, 0, "b")}, api.Piece{Number: 7, Chunk: loose(7, 1, 0, 1, "h.")})
	for i := range r.Log {
		r.Log[i].Data = roomy(r.Log[i].Data, '!', '!')
	}
	r.Log = roomy(r.Log, api.Arrival{Stream: 77, Data: []byte("!")})
	return r, next
}

// roomy is a copy of l with spare stuff behind its end.
func roomy[T any](l []T, spare ...T) []T { return slices.Concat(l, spare)[:len(l)] }

// whole is r with its spare room, and that of its lists, as if it were no spare room.
func whole(r api.Receiver) api.Receiver {
	r = api.Receiver{Config: r.Config, Cum: r.Cum, Spans: slices.Clone(all(r.Spans)), Pieces: slices.Clone(all(r.Pieces)), Turn: slices.Clone(all(r.Turn)), Log: slices.Clone(all(r.Log))}
	for i := range r.Pieces {
		r.Pieces[i].Chunk = wholeChunk(r.Pieces[i].Chunk)
	}
	for i := range r.Log {
		r.Log[i].Data = all(r.Log[i].Data)
	}
	return r
}

func wholeChunk(c api.Chunk) api.Chunk {
	c.Data, c.Spans, c.Skips = all(c.Data), all(c.Spans), all(c.Skips)
	return c
}

func all[T any](l []T) []T { return l[:cap(l)] }

// intact tells whether r, l and all spare room in them are as spacious made them.
func intact(r api.Receiver, l []api.Chunk) bool {
	was, chunks := spacious()
	return same(whole(r), whole(was)) && slices.EqualFunc(l, chunks, func(x, y api.Chunk) bool { return alike(wholeChunk(x), wholeChunk(y)) })
}

// overwrite changes what r has, and its spare room, but first what is in its lists, and their spare room.
func overwrite(r api.Receiver) {
	for _, p := range all(r.Pieces) {
		overwriteChunk(p.Chunk)
	}
	for _, a := range all(r.Log) {
		fill(a.Data, 201)
	}
	fill(r.Spans, api.Span{From: 201, To: 201})
	fill(r.Pieces, api.Piece{Number: 201})
	fill(r.Turn, 201)
	fill(r.Log, api.Arrival{Stream: 201, Mid: 201})
}

func overwriteChunk(c api.Chunk) {
	fill(c.Data, 201)
	fill(c.Spans, api.Span{From: 201, To: 201})
	fill(c.Skips, api.Skip{Stream: 201, Mid: 201})
}

func fill[T any](l []T, x T) {
	for i := range all(l) {
		all(l)[i] = x
	}
}

// calls are calls that answer a receiver, of what spacious made.
var calls = map[string]func(api.Receiver, []api.Chunk) api.Receiver{
	"Own":        func(r api.Receiver, _ []api.Chunk) api.Receiver { return Own(r) },
	"Data":       func(r api.Receiver, l []api.Chunk) api.Receiver { return Data(r, l[0]) },
	"Data ahead": func(r api.Receiver, l []api.Chunk) api.Receiver { return Data(r, l[1]) },
	"Data that waits": func(r api.Receiver, l []api.Chunk) api.Receiver {
		c := l[0]
		c.Part = 2
		return Data(r, c)
	},
	"Data of what is none": func(r api.Receiver, l []api.Chunk) api.Receiver { return Data(r, l[2]) },
	"Forward":              func(r api.Receiver, l []api.Chunk) api.Receiver { return Forward(r, l[2]) },
	"Forward of nothing":   func(r api.Receiver, l []api.Chunk) api.Receiver { return Forward(r, l[0]) },
}

// Z2: receivers, chunks, their lists, and the spare room behind all of them are neither changed nor kept; what is answered is the caller's.
func TestAllIsOnlyRead(t *testing.T) {
	for name, call := range calls {
		r, l := spacious()
		got := call(r, l)
		want := call(spacious())
		if !intact(r, l) {
			t.Errorf("%s: of what was handed in is left: %+v, %+v", name, r, l)
		}
		overwrite(r)
		for _, c := range l {
			overwriteChunk(c)
		}
		if !same(got, want) {
			t.Errorf("%s: with what was handed in the answer changes: %+v, not %+v", name, got, want)
		}
		r, l = spacious()
		overwrite(call(r, l))
		if !intact(r, l) {
			t.Errorf("%s: with the answer changes what was handed in: %+v, %+v", name, r, l)
		}
	}
	r, l := spacious()
	c := Sack(r)
	Held(r)
	if !intact(r, l) {
		t.Errorf("of what was handed in is left: %+v, %+v", r, l)
	}
	overwrite(r)
	if !alike(c, sackOfSpacious) {
		t.Errorf("with what was handed in the sack changes: %+v", c)
	}
	r, l = spacious()
	overwriteChunk(Sack(r))
	if !intact(r, l) {
		t.Errorf("with the sack changes what was handed in: %+v, %+v", r, l)
	}
}

var sackOfSpacious = api.Chunk{Kind: api.ChSack, Tag: 1, Room: 396, Spans: []api.Span{{From: 2, To: 3}, {From: 5, To: 5}, {From: 7, To: 8}}}

// Z2: no two lists of one answer share memory, if those that were handed in do, too.
func TestAnswersShareNothing(t *testing.T) {
	b := []byte("x")
	spans := []api.Span{{From: 2, To: 3}}
	skips := []api.Skip{{Stream: 1}}
	for name, call := range calls {
		r, l := spacious()
		for i := range r.Pieces {
			c := &r.Pieces[i].Chunk
			c.Data, c.Spans, c.Skips = b, spans, skips
		}
		for i := range r.Log {
			r.Log[i].Data = b
		}
		for i := range 2 {
			l[i].Data, l[i].Spans, l[i].Skips = b, spans, skips
		}
		got := call(r, l)
		shareNothing(t, name, got)
	}
}

func shareNothing(t *testing.T, name string, r api.Receiver) {
	t.Helper()
	for i, p := range r.Pieces {
		overwriteChunk(p.Chunk)
		for _, other := range r.Pieces[i+1:] {
			if c := other.Chunk; string(c.Data) != "x" || c.Spans[0].From != 2 || c.Skips[0].Stream != 1 {
				t.Errorf("%s: with piece %d others change: %+v", name, i, r)
			}
		}
	}
	for i, a := range r.Log {
		if strings.Trim(string(a.Data), "x") != "" {
			t.Errorf("%s: with others arrival %d changes: %+v", name, i, r)
		}
		fill(a.Data, 201)
	}
}

// Spare room is not looked at: pieces, spans, turns and skips that stand there are none.
func TestSpareRoomIsNotRead(t *testing.T) {
	r, l := spacious()
	is(t, Own(r), "1 (3-4 6-6 8-9) [3=c 4=d 6=e 8=f] [1 0] 0/0=a 1~1=g")
	is(t, Data(r, l[0]), "4 (6-6 8-9) [4=d 8=f] [3 0] 0/0=a 1~1=g 0/1=bc 0/2=e")
	is(t, Data(r, l[1]), "1 (3-4 6-9) [3=c 6=e 8=f] [1 0] 0/0=a 1~1=g 1~0=dh")
	is(t, Forward(r, l[2]), "6 (8-9) [3=c 6=e] [1 2] 0/0=a 1~1=g 1/1=f")
	if got := Held(r); got != 4 {
		t.Errorf("%d bytes are held", got)
	}
	if got := Sack(r); !alike(got, sackOfSpacious) {
		t.Errorf("the sack is %+v", got)
	}
	nothing(t, r, ordered(2, 2, 0, 0, "x."))
	is(t, Forward(r, forward(2, upTo(2, 0))), "4 (6-6 8-9) [3=c 4=d 6=e 8=f] [1 0] 0/0=a 1~1=g")
	r.Spans = r.Spans[:1]
	is(t, Data(r, loose(6, 1, 5, 0, "i.")), "1 (3-4 6-6) [3=c 4=d 6=e 8=f] [1 0] 0/0=a 1~1=g 1~5=i")
}

// Z3: lists that are nil, and lists without entries, are the same.
func TestNilIsEmpty(t *testing.T) {
	for _, none := range []api.Receiver{
		{Cum: 4, Turn: []int{0}},
		{Cum: 4, Turn: []int{0}, Spans: []api.Span{}, Pieces: []api.Piece{}, Log: []api.Arrival{}},
		{Cum: 4, Turn: []int{0}, Spans: roomy(nil, api.Span{From: 5, To: 6}), Pieces: roomy(nil, api.Piece{Number: 5, Chunk: ordered(5, 0, 0, 0, "x.")}), Log: roomy(nil, api.Arrival{Stream: 1})},
	} {
		is(t, Own(none), "4 () [] [0]")
		is(t, Data(none, ordered(6, 0, 0, 1, "b.")), "4 (6-6) [6=b] [0]")
		is(t, Data(none, ordered(5, 0, 0, 0, "a.")), "5 () [] [1] 0/0=a")
		is(t, Forward(none, forward(5, upTo(0, 0), without(0, 0))), "5 () [] [1]")
		if Held(none) != 0 || !alike(Sack(none), api.Chunk{Kind: api.ChSack, Tag: 4, Room: 400}) {
			t.Errorf("%d bytes are held, and the sack is %+v", Held(none), Sack(none))
		}
		none.Turn = none.Turn[:0]
		is(t, Data(none, ordered(5, 0, 0, 0, "a.")), "4 () [] []")
	}
	nothing(t, api.Receiver{}, ordered(1, 0, 0, 0, "a."))
	is(t, Forward(api.Receiver{}, forward(1, upTo(0, 0))), "1 () [] []")
	for _, none := range [][]byte{nil, {}, []byte("abc")[:0]} {
		c := loose(1, 0, 0, 0, "a")
		c.Data = none
		r := after(1, c)
		is(t, r, "1 () [1=] [0]")
		is(t, Data(r, loose(2, 0, 0, 1, "b.")), "2 () [] [0] 0~0=b")
		c.Last = true
		is(t, after(1, c), "1 () [] [0] 0~0=") // no bytes, and delivered all the same
	}
	for _, none := range [][]api.Skip{nil, {}, []api.Skip{upTo(0, 5)}[:0]} {
		is(t, Forward(after(1, ordered(1, 0, 1, 0, "a.")), forward(2, none...)), "2 () [1=a] [0]")
	}
}

// Z5: fields that a kind has not mean nothing, whatever stands in them.
func TestFieldsThatAreNotNamed(t *testing.T) {
	plain := []api.Chunk{ordered(2, 0, 1, 0, "b."), loose(4, 1, 0, 0, "d"), forward(1, upTo(0, 0)), loose(6, 1, 0, 1, "e."), forward(7, without(1, 0))}
	for _, n := range odd {
		c := api.Config{Streams: 2, First: 1}
		r, full := New(c), New(api.Config{Streams: 2, Part: n, Packet: n, Paths: n, Turns: n, Waiting: n, First: 1})
		for _, x := range plain {
			r = come(r, x)
			x.Room = n
			if x.Kind == api.ChData {
				x.Spans, x.Skips = []api.Span{{From: n, To: n}}, []api.Skip{upTo(0, 9), without(1, 0), {Stream: n, Mid: n}}
			} else {
				x.Stream, x.Mid, x.Part, x.Last, x.Ordered = 1, 0, n, true, n%2 == 0
				x.Data, x.Spans = []byte("abc"), []api.Span{{From: n, To: n}, {From: 1, To: 9}}
			}
			full = come(full, x)
			if tell(full) != tell(r) || !alike(Sack(full), Sack(r)) || Held(full) != Held(r) {
				t.Fatalf("%+v comes: %s, not %s", x, tell(full), tell(r))
			}
		}
	}
}

// Z4: fields of a sack that the chapter does not name are zero: those of its pieces are not.
func TestSackHasNothingElse(t *testing.T) {
	r := after(2, ordered(1, 1, 5, 3, "a."), ordered(3, 1, 5, 4, "b."))
	want := api.Chunk{Kind: api.ChSack, Tag: 1, Room: 398, Spans: []api.Span{{From: 2, To: 2}}}
	if got := Sack(r); !alike(got, want) || chunk.Wrong(got) != api.OK {
		t.Errorf("the sack is %+v", got)
	}
}

// A forward that passes half of all tags, and again, of all streams, does so at once, however many pieces there are.
func TestManyArePassed(t *testing.T) {
	r := after(4)
	for i := range 400 {
		r = Data(r, ordered(i+2, i%4, 60000+i, i%3, "x"))
	}
	var skips []api.Skip
	for i := range 4000 {
		skips = append(skips, upTo(i%4, (i/4+1)*32000))
	}
	r = Forward(r, forward(1, skips...))
	if r.Cum != 401 || len(r.Pieces) != 0 || len(r.Log) != 0 || !slices.Equal(r.Turn, []int{32000001, 32000001, 32000001, 32000001}) {
		t.Errorf("%s", tell(r))
	}
}
