package packet

import (
	"bytes"
	"math"
	"slices"
	"testing"

	"braidline/api"
)

// goesRound: what Parse reads of b is, as Bytes, b again, and just fits in that many.
func goesRound(t *testing.T, b []byte) {
	t.Helper()
	l, err := Parse(b)
	if err != api.OK {
		if len(l) != 0 {
			t.Fatalf("Parse(%v): %+v beside error %d", b, l, err)
		}
		return
	}
	again, err := Bytes(l, len(b))
	if err != api.OK || !bytes.Equal(again, b) {
		t.Fatalf("Parse(%v) = %+v, of which the bytes are %v, %d", b, l, again, err)
	}
	if Fit(l, len(b)) != len(l) || Fit(l, len(b)-1) != len(l)-1 {
		t.Fatalf("Parse(%v) = %+v, of which %d and %d fit", b, l, Fit(l, len(b)), Fit(l, len(b)-1))
	}
	if _, err := Bytes(l, len(b)-1); err != api.ErrMuch {
		t.Fatalf("Parse(%v) = %+v, of which the bytes, one less, are %d", b, l, err)
	}
}

// Z1: whatever bytes there are, Parse answers.
func TestNoBytesPanic(t *testing.T) {
	some := []byte{0, 1, 2, 3, 4, 8, 255}
	var b [5]byte
	for n := range 7 * 7 * 7 * 7 * 7 {
		for i := range b {
			b[i] = some[n%len(some)]
			n /= len(some)
		}
		for end := range len(b) + 1 {
			goesRound(t, b[:end])
			goesRound(t, slices.Concat(told[1].b, b[:end]))
		}
	}
}

// Of packets that are told right, any one byte may be any other.
func TestBytesOneOff(t *testing.T) {
	_, bs := allTold()
	all := slices.Concat(bs...)
	for i := range all {
		for n := range 256 {
			b := slices.Clone(all)
			b[i] = byte(n)
			goesRound(t, b)
		}
	}
}

// FuzzParse is run on its seeds by go test, and on more by go test -fuzz.
func FuzzParse(f *testing.F) {
	_, bs := allTold()
	for i := range bs {
		f.Add(slices.Concat(bs[i:]...))
		f.Add(slices.Concat(bs[:i]...))
	}
	f.Fuzz(goesRound)
}

// Z1: whatever stands in chunks, all calls answer, and the same again.
func TestNoChunksPanic(t *testing.T) {
	odd := []int{math.MinInt, -1, 0, 2, 255, 65535, 65536, math.MaxInt}
	for kind := -1; kind <= 5; kind++ {
		for _, a := range odd {
			for _, b := range odd {
				c := api.Chunk{Kind: kind, Tag: a, Stream: b, Mid: a, Part: b, Room: b, Data: []byte{1},
					Spans: []api.Span{{From: a, To: b}, {From: b, To: a}}, Skips: []api.Skip{{Stream: a, Mid: b}}}
				for _, most := range anyMost {
					alike(t, []api.Chunk{c}, most)
					alike(t, []api.Chunk{told[0].c, c, c, told[1].c}, most)
				}
			}
		}
	}
}

func alike(t *testing.T, l []api.Chunk, most int) {
	t.Helper()
	b, err := Bytes(l, most)
	again, err2 := Bytes(l, most)
	if err != err2 || !bytes.Equal(b, again) || (err == api.OK) != (len(b) > 0) {
		t.Fatalf("Bytes(%+v, %d): %v, %d, then %v, %d", l, most, b, err, again, err2)
	}
	n := Fit(l, most)
	if n != Fit(l, most) || n < 0 || n > len(l) || (n == len(l)) != (err == api.OK) {
		t.Fatalf("Fit(%+v, %d) = %d, then %d; Bytes has %d", l, most, n, Fit(l, most), err)
	}
}

// spacious are two chunks of each kind in a list, all of whose lists have spare room with something in it; behind data there is room for a whole packet.
func spacious() []api.Chunk {
	var l []api.Chunk
	for kind := range 6 {
		l = append(l, api.Chunk{Kind: kind%3 + 1, Tag: kind,
			Data:  append([]byte{1, 2, 3}, bytes.Repeat([]byte{77}, 297)...)[:3],
			Spans: []api.Span{{From: 2, To: 3}, {From: 5, To: 5}, {From: 77, To: 78}}[:2],
			Skips: []api.Skip{{Stream: 1, Mid: 2}, {Stream: 2, Mid: 3}, {Stream: 77}}[:2]})
	}
	return append(l, told[0].c, told[1].c)[:6]
}

// intact tells whether l and all spare room in it are as spacious made them.
func intact(l []api.Chunk) bool {
	roomToo := func(l []api.Chunk) []api.Chunk {
		out := slices.Clone(l[:8])
		for i, c := range out[:6] {
			out[i].Data, out[i].Spans, out[i].Skips = c.Data[:300], c.Spans[:3], c.Skips[:3]
		}
		return out
	}
	return same(roomToo(l), roomToo(spacious()))
}

// Z2: chunks, their lists, and the spare room behind all of them are neither changed nor kept, and what is answered is the caller's.
func TestChunksAreOnlyRead(t *testing.T) {
	l := spacious()
	b, err := Bytes(l, 1000)
	if n := Fit(l, 1000); err != api.OK || n != 6 || !intact(l) {
		t.Fatalf("%d, %d fit, and of what was handed in is left: %+v", err, n, l)
	}
	Bytes(l, 3)
	Fit(l, 30)
	if !intact(l) {
		t.Fatalf("of what was handed in with too few bytes is left: %+v", l)
	}
	first := slices.Clone(b)
	all := b[:cap(b)]
	for i := range all {
		all[i] = 200
	}
	if !intact(l) {
		t.Errorf("the chunks change with the answer: %+v", l)
	}
	b, _ = Bytes(l, 1000)
	if !bytes.Equal(b, first) {
		t.Errorf("%v, and then %v", first, b)
	}
	for _, c := range l {
		c.Data[0], c.Spans[0].From, c.Skips[0].Mid = 99, 99, 99
	}
	l[0], l[5] = api.Chunk{}, api.Chunk{}
	if !bytes.Equal(b, first) {
		t.Errorf("the answer changes with the chunks: %v", b)
	}
}

// Z2: of one chunk alone, the bytes are the caller's, too.
func TestBytesOfOneChunkAreNew(t *testing.T) {
	for _, x := range told {
		b, _ := Bytes([]api.Chunk{x.c}, 100)
		all := b[:cap(b)]
		for i := range all {
			all[i] = 200
		}
		bytesAre(t, []api.Chunk{x.c}, 100, x.b, api.OK)
	}
}

// Z2: bytes and the spare room behind them are neither changed nor kept.
func TestBytesAreOnlyRead(t *testing.T) {
	l, bs := allTold()
	all := slices.Concat(bs...)
	room := slices.Concat(all, told[0].b) // spare room that would be one chunk more
	before := slices.Clone(room)
	got, err := Parse(room[:len(all)])
	if err != api.OK || !same(got, l) || !bytes.Equal(room, before) {
		t.Fatalf("Parse(%v) = %+v, %d, and left of it is %v", before, got, err, room)
	}
	for i := range room {
		room[i] = 200
	}
	if !same(got, l) {
		t.Errorf("the answer changes with the bytes that were handed in: %+v", got)
	}
	copy(room, before)
	overwrite(got)
	if !bytes.Equal(room, before) {
		t.Errorf("the bytes that were handed in change with the answer: %v", room)
	}
	parsed(t, room[:len(all)], l, api.OK)
}

// overwrite changes all lists of l's chunks, and the spare room behind them.
func overwrite(l []api.Chunk) {
	for _, c := range l {
		data, spans, skips := c.Data[:cap(c.Data)], c.Spans[:cap(c.Spans)], c.Skips[:cap(c.Skips)]
		for i := range data {
			data[i] = 201
		}
		for i := range spans {
			spans[i] = api.Span{From: 201, To: 201}
		}
		for i := range skips {
			skips[i] = api.Skip{Stream: 201, Mid: 201}
		}
	}
}

// No two lists of an answer share memory, their spare room among it.
func TestListsAreApart(t *testing.T) {
	l, bs := allTold()
	l, bs = append(l, l...), append(bs, bs...)
	for i := range l {
		got, err := Parse(slices.Concat(bs...))
		if err != api.OK {
			t.Fatalf("%d", err)
		}
		overwrite(got[i : i+1])
		if !same(got[:i], l[:i]) || !same(got[i+1:], l[i+1:]) {
			t.Errorf("the others change with chunk %d: %+v", i, got)
		}
	}
}

// Spare room is not looked at: what stands there is neither a chunk nor an error.
func TestSpareRoomIsNotRead(t *testing.T) {
	l := []api.Chunk{told[0].c, told[1].c, {}}
	bytesAre(t, l[:0], 100, nil, api.ErrMany)
	bytesAre(t, l[:1], len(told[0].b), told[0].b, api.OK)
	bytesAre(t, l[:2], 17, slices.Concat(told[0].b, told[1].b), api.OK)
	fits(t, l[:0], 100, 0)
	fits(t, l[:1], 100, 1)
	fits(t, l[:2], 100, 2)
}

// Z3: lists of chunks without entries are the same as nil.
func TestNilIsEmpty(t *testing.T) {
	for kind := range 5 {
		none := []api.Chunk{told[0].c, {Kind: kind}}
		empty := []api.Chunk{told[0].c, {Kind: kind, Data: []byte{}, Spans: []api.Span{}, Skips: []api.Skip{}}}
		for _, most := range anyMost {
			b, err := Bytes(none, most)
			bytesAre(t, empty, most, b, err)
			fits(t, empty, most, Fit(none, most))
		}
	}
}

// Z5: fields that a kind has not mean nothing, and those of what Parse answers are zero.
func TestFieldsOfOtherKinds(t *testing.T) {
	l, bs := allTold()
	full := slices.Clone(l)
	for i := range full {
		c := &full[i]
		if c.Kind != api.ChData {
			c.Stream, c.Mid, c.Part, c.Last, c.Ordered, c.Data = -1, -1, 256, true, true, make([]byte, 300)
		}
		if c.Kind != api.ChSack {
			c.Room, c.Spans = -1, make([]api.Span, 300)
		}
		if c.Kind != api.ChForward {
			c.Skips = make([]api.Skip, 300)
		}
	}
	all := slices.Concat(bs...)
	bytesAre(t, full, len(all), all, api.OK)
	fits(t, full, len(all), len(full))
	fits(t, full, len(all)-1, len(full)-1)
	parsed(t, all, l, api.OK)
}
