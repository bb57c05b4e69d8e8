package chunk

import (
	"bytes"
	"math"
	"slices"
	"testing"

	"braidline/api"
)

// goesRound: what Parse reads of b is, as Bytes, what stood there; Wrong finds nothing in it.
func goesRound(t *testing.T, b []byte) {
	t.Helper()
	c, n, err := Parse(b)
	if err != api.OK {
		if n != 0 || !same(c, api.Chunk{}) {
			t.Fatalf("Parse(%v): %+v and %d beside error %d", b, c, n, err)
		}
		return
	}
	again, err := Bytes(c)
	if err != api.OK || Wrong(c) != api.OK || n != 2+int(b[1]) || !bytes.Equal(again, b[:n]) {
		t.Fatalf("Parse(%v) = %+v, %d, of which the bytes are %v, %d", b, c, n, again, err)
	}
}

// Z1: whatever bytes there are, Parse answers.
func TestNoBytesPanic(t *testing.T) {
	var b [12]byte
	some := []byte{0, 1, 2, 3, 4, 255}
	for kind := range 5 {
		for length := range 12 {
			b[0], b[1] = byte(kind), byte(length)
			for i := 2; i < len(b); i++ {
				for _, x := range some {
					b[i] = x
					for end := range len(b) + 1 {
						goesRound(t, b[:end])
					}
				}
				b[i] = byte(i % 3)
			}
		}
	}
}

// Of chunks that are told right, any one byte may be any other.
func TestBytesOneOff(t *testing.T) {
	for _, x := range told {
		for i := range x.b {
			for n := range 256 {
				b := slices.Clone(x.b)
				b[i] = byte(n)
				goesRound(t, b)
				goesRound(t, append(b, 0, 0, 0, 0, 0, 0, 0, 0))
			}
		}
	}
}

// FuzzParse is run on its seeds by go test, and on more by go test -fuzz.
func FuzzParse(f *testing.F) {
	for _, x := range told {
		f.Add(x.b)
	}
	f.Fuzz(goesRound)
}

// Z1: whatever stands in a chunk, all calls answer, and the same again.
func TestNoChunkPanics(t *testing.T) {
	odd := []int{math.MinInt, -1, 0, 2, 255, 65535, 65536, math.MaxInt}
	for kind := -1; kind <= 5; kind++ {
		for _, a := range odd {
			for _, b := range odd {
				c := api.Chunk{Kind: kind, Tag: a, Stream: b, Mid: a, Part: b, Room: b, Data: []byte{1},
					Spans: []api.Span{{From: a, To: b}, {From: b, To: a}}, Skips: []api.Skip{{Stream: a, Mid: b}}}
				alike(t, c)
				c.Tag, c.Stream, c.Room = 1, 1, 1
				alike(t, c)
				c.Spans = []api.Span{{From: 2, To: b}, {From: a, To: b}}
				alike(t, c)
			}
		}
	}
	for _, n := range odd {
		if Size(n) != Size(n) {
			t.Errorf("Size(%d) answers differently", n)
		}
	}
}

func alike(t *testing.T, c api.Chunk) {
	t.Helper()
	b, err := Bytes(c)
	again, err2 := Bytes(c)
	if err != err2 || err != Wrong(c) || !bytes.Equal(b, again) || (err == api.OK) != (len(b) > 0) {
		t.Fatalf("%+v: %v, %d, then %v, %d; wrong is %d", c, b, err, again, err2, Wrong(c))
	}
}

// Z2: lists of a chunk and the spare room behind them are neither changed nor kept, and what is answered is the caller's.
func TestChunksAreOnlyRead(t *testing.T) {
	for kind := api.ChData; kind <= api.ChForward; kind++ {
		c := api.Chunk{Kind: kind,
			Data:  []byte{1, 2, 3, 77, 78}[:3],
			Spans: []api.Span{{From: 2, To: 3}, {From: 5, To: 5}, {From: 77, To: 78}}[:2],
			Skips: []api.Skip{{Stream: 1, Mid: 2}, {Stream: 2, Mid: 3}, {Stream: 77}}[:2]}
		intact := func() bool {
			return bytes.Equal(c.Data[:5], []byte{1, 2, 3, 77, 78}) &&
				slices.Equal(c.Spans[:3], []api.Span{{From: 2, To: 3}, {From: 5, To: 5}, {From: 77, To: 78}}) &&
				slices.Equal(c.Skips[:3], []api.Skip{{Stream: 1, Mid: 2}, {Stream: 2, Mid: 3}, {Stream: 77}})
		}
		Wrong(c)
		b, err := Bytes(c)
		if err != api.OK || !intact() {
			t.Fatalf("kind %d: %d, and of what was handed in is left: %+v", kind, err, c)
		}
		first := slices.Clone(b)
		all := b[:cap(b)]
		for i := range all {
			all[i] = 200
		}
		if !intact() {
			t.Errorf("kind %d: the chunk changes with the answer: %+v", kind, c)
		}
		if again, _ := Bytes(c); !bytes.Equal(again, first) {
			t.Errorf("kind %d: %v, and then %v", kind, first, again)
		}
	}
	c := data(nil)
	b, _ := Bytes(c)
	before := slices.Clone(b)
	c.Data[0] = 99
	if !bytes.Equal(b, before) {
		t.Errorf("the answer changes with the chunk's data: %v", b)
	}
}

// Z2: a copy of a chunk, whatever its kind, has all that the chunk has, and changes neither with it nor it.
func TestOwn(t *testing.T) {
	full := func(kind int) api.Chunk {
		return api.Chunk{Kind: kind, Tag: -1, Stream: 2, Mid: 3, Part: 4, Last: true, Ordered: true, Room: 5,
			Data: []byte{1, 2, 77}[:2], Spans: []api.Span{{From: 2, To: 3}, {From: 77}}[:1], Skips: []api.Skip{{Stream: 1, Mid: 2}, {Stream: 77}}[:1]}
	}
	overwrite := func(c api.Chunk) {
		copy(c.Data[:cap(c.Data)], []byte{200, 200, 200})
		copy(c.Spans[:cap(c.Spans)], []api.Span{{From: 200}, {From: 200}})
		copy(c.Skips[:cap(c.Skips)], []api.Skip{{Mid: 200}, {Mid: 200}})
	}
	for kind := range 5 {
		c := full(kind)
		got := Own(c)
		if !same(got, full(kind)) {
			t.Errorf("Own(%+v) = %+v", full(kind), got)
		}
		overwrite(got)
		if !same(c, full(kind)) || c.Data[:3][2] != 77 || c.Spans[:2][1].From != 77 || c.Skips[:2][1].Stream != 77 {
			t.Errorf("with its copy %+v changes", c)
		}
		got = Own(c)
		overwrite(c)
		if !same(got, full(kind)) {
			t.Errorf("with what was copied %+v changes", got)
		}
	}
	if got := Own(api.Chunk{}); !same(got, api.Chunk{}) {
		t.Errorf("a copy of nothing is %+v", got)
	}
}

// Z2: bytes and the spare room behind them are neither changed nor kept, and what is answered is the caller's.
func TestBytesAreOnlyRead(t *testing.T) {
	for _, x := range told {
		room := slices.Concat(x.b, []byte{77, 78, 79, 80})
		before := slices.Clone(room)
		c, _, err := Parse(room[:len(x.b)])
		if err != api.OK || !bytes.Equal(room, before) {
			t.Fatalf("Parse(%v): %d, and left of it is %v", before, err, room)
		}
		for i := range room {
			room[i] = 200
		}
		if !same(c, x.c) {
			t.Errorf("%+v: the answer changes with the bytes that were handed in", c)
		}
		copy(room, before)
		all := c.Data[:cap(c.Data)]
		for i := range all {
			all[i] = 201
		}
		if !bytes.Equal(room, before) {
			t.Errorf("%+v: the bytes that were handed in change with the answer: %v", x.c, room)
		}
		if again, _, _ := Parse(room); !same(again, x.c) {
			t.Errorf("%+v, read again, is %+v", x.c, again)
		}
	}
}

// Spare room is not looked at (that of bytes: see TestParseEndsTooSoon, where the rest stands in it).
func TestSpareRoomIsNotRead(t *testing.T) {
	c := data(func(c *api.Chunk) { c.Data = []byte{1, 2, 3}[:0] })
	if err := Wrong(c); err != api.ErrMuch {
		t.Errorf("no data, and spare room behind it: %d", err)
	}
	many := sack(1, 1, 2, 2)
	many.Spans = append(many.Spans, make([]api.Span, 20)...)[:1]
	if err := Wrong(many); err != api.OK {
		t.Errorf("one span, and spare room behind it: %d", err)
	}
}

// Z3: nil and a list without entries are the same.
func TestNilIsEmpty(t *testing.T) {
	for kind := range 5 {
		none := api.Chunk{Kind: kind}
		empty := api.Chunk{Kind: kind, Data: []byte{}, Spans: []api.Span{}, Skips: []api.Skip{}}
		a, err := Bytes(none)
		b, err2 := Bytes(empty)
		if Wrong(none) != Wrong(empty) || err != err2 || !bytes.Equal(a, b) {
			t.Errorf("kind %d: of nil %v, %d; of nothing %v, %d", kind, a, err, b, err2)
		}
	}
	parsedTo(t, nil, api.ErrEnd)
	parsedTo(t, []byte{}, api.ErrEnd)
}

// Z5: fields that a kind has not mean nothing, and those of what Parse answers are zero.
func TestFieldsOfOtherKinds(t *testing.T) {
	full := api.Chunk{Stream: -1, Mid: -1, Part: -1, Last: true, Ordered: true, Data: make([]byte, 300),
		Spans: make([]api.Span, 300), Room: -1, Skips: make([]api.Skip, 300)}
	for _, x := range told {
		c := full
		c.Kind, c.Tag = x.c.Kind, x.c.Tag
		switch c.Kind {
		case api.ChData:
			c.Stream, c.Mid, c.Part, c.Last, c.Ordered, c.Data = x.c.Stream, x.c.Mid, x.c.Part, x.c.Last, x.c.Ordered, x.c.Data
		case api.ChSack:
			c.Room, c.Spans = x.c.Room, x.c.Spans
		case api.ChForward:
			c.Skips = x.c.Skips
		}
		b, err := Bytes(c)
		if err != api.OK || Wrong(c) != api.OK || !bytes.Equal(b, x.b) {
			t.Errorf("%+v with fields of other kinds: %v, %d", x.c, b, err)
		}
		if again, _, _ := Parse(b); !same(again, x.c) {
			t.Errorf("%+v with fields of other kinds: read is %+v", x.c, again)
		}
	}
}
