package parts

import (
	"bytes"
	"math"
	"reflect"
	"slices"
	"testing"

	"braidline/api"
)

var odd = []int{math.MinInt, math.MinInt + 1, -65536, -1, 0, 1, 2, 255, 256, 65536, math.MaxInt - 1, math.MaxInt}

// Z1: whatever numbers there are, Count and Split answer, and the same again.
func TestNoNumbersPanic(t *testing.T) {
	for _, part := range odd {
		for _, n := range odd {
			counts(t, n, part, Count(n, part))
		}
		for n := range len(text) {
			got, again := Split([]byte(text[:n]), part), Split([]byte(text[:n]), part)
			if !reflect.DeepEqual(got, again) || len(got) != Count(n, part) {
				t.Errorf("Split(%q, %d) = %q, then %q", text[:n], part, got, again)
			}
		}
	}
}

// Z1: whatever stands in pieces, Join answers, and the same again.
func TestNoPiecesPanic(t *testing.T) {
	for _, a := range odd {
		for _, b := range odd {
			for _, c := range odd {
				l := []api.Piece{piece(a, false, "a"), piece(b, true, "b"), piece(c, c > b, "c"), {}}
				for end := range len(l) + 1 {
					goesTheSame(t, l[:end])
					goesTheSame(t, l[len(l)-end:])
				}
			}
		}
	}
}

// goesTheSame: Join makes a message of what is whole, each time the same.
func goesTheSame(t *testing.T, l []api.Piece) {
	t.Helper()
	got, ok := Join(l)
	again, ok2 := Join(l)
	if ok != ok2 || !bytes.Equal(got, again) || ok != whole(l) || !ok && len(got) != 0 {
		t.Fatalf("Join(%+v) = %q, %t, then %q, %t", l, got, ok, again, ok2)
	}
}

// FuzzSplit is run on its seeds by go test, and on more by go test -fuzz.
func FuzzSplit(f *testing.F) {
	for _, part := range odd {
		f.Add([]byte(text), part, part)
	}
	f.Fuzz(func(t *testing.T, b []byte, part, from int) {
		got := Split(b, part)
		if len(got) != Count(len(b), part) {
			t.Fatalf("Split(%q, %d) = %q, of which Count is %d", b, part, got, Count(len(b), part))
		}
		if len(got) == 0 {
			if len(b) > 0 && part > 0 {
				t.Fatalf("Split(%q, %d) has no parts", b, part)
			}
			return
		}
		// The parts go round, so that any of them may come first.
		l := make([]api.Piece, len(got))
		for i, b := range got {
			at := (i + from%len(l) + len(l)) % len(l)
			l[at] = piece(i, i == len(l)-1, string(b))
			if len(b) != part && (i < len(l)-1 || len(b) > part || len(b) == 0) {
				t.Fatalf("part %d in parts of %d: %q", i, part, b)
			}
		}
		joins(t, l, string(b))
		joinsNot(t, l[1:])
		joinsNot(t, append(l, l[0]))
	})
}

// FuzzJoin is run likewise: each two bytes are a piece.
func FuzzJoin(f *testing.F) {
	f.Add([]byte{0, 1})
	f.Add([]byte{1, 1, 0, 0})
	f.Add([]byte{2, 1, 0, 0, 1, 0})
	f.Add([]byte{2, 1, 0, 0, 255, 0, 0, 0})
	f.Fuzz(func(t *testing.T, b []byte) {
		var l []api.Piece
		for two := range slices.Chunk(b, 2) {
			l = append(l, piece(int(int8(two[0])), two[len(two)-1]&1 == 1, string(two)))
		}
		goesTheSame(t, l)
	})
}

// Z2: bytes and the spare room behind them are neither changed nor kept, and each part is the caller's, its spare room too.
func TestBytesAreOnlyRead(t *testing.T) {
	for part := 1; part <= 12; part++ {
		room := []byte(text)
		b := room[:10]
		got := Split(b, part)
		want := Split([]byte(text[:10]), part)
		if string(room) != text || !reflect.DeepEqual(got, want) {
			t.Fatalf("Split in parts of %d = %q, and left is %q", part, got, room)
		}
		for i := range room {
			room[i] = '!'
		}
		if !reflect.DeepEqual(got, want) {
			t.Errorf("the parts of %d change with the bytes: %q", part, got)
		}
		copy(room, text)
		for i := range got {
			overwrite(got[i])
			if string(room) != text || !reflect.DeepEqual(got[i+1:], want[i+1:]) {
				t.Errorf("with part %d of %d bytes others change: %q, %q", i, part, got, room)
			}
		}
		for i := range got {
			copy(got[i], want[i])
		}
		for i := range slices.Backward(got) {
			overwrite(got[i])
			if !reflect.DeepEqual(got[:i], want[:i]) {
				t.Errorf("with part %d of %d bytes those ahead change: %q", i, part, got)
			}
		}
	}
}

// overwrite changes b, and the spare room behind it.
func overwrite(b []byte) {
	all := b[:cap(b)]
	for i := range all {
		all[i] = '?'
	}
}

// spacious are three pieces of a message, the last one first; all of their lists have spare room with something in it.
func spacious() []api.Piece {
	l := pieces("one", "two", "three", "four", "five")
	slices.Reverse(l[:3])
	for i := range l {
		c := &l[i].Chunk
		c.Last = c.Part == 2
		c.Data = append(c.Data, bytes.Repeat([]byte{'.'}, 100)...)[:len(c.Data)]
		c.Spans = []api.Span{{From: 2, To: 3}, {From: 77, To: 78}}[:1]
		c.Skips = []api.Skip{{Stream: 1, Mid: 2}, {Stream: 77}}[:1]
	}
	return l[:3]
}

// intact tells whether l and all spare room in it are as spacious made them.
func intact(l []api.Piece) bool {
	roomToo := func(l []api.Piece) []api.Piece {
		out := slices.Clone(l[:5])
		for i := range out {
			c := &out[i].Chunk
			c.Data, c.Spans, c.Skips = c.Data[:len(c.Data)+100], c.Spans[:2], c.Skips[:2]
		}
		return out
	}
	return reflect.DeepEqual(roomToo(l), roomToo(spacious()))
}

// Z2: pieces, their lists, and the spare room behind all of them are neither changed nor kept, and what is answered is the caller's.
func TestPiecesAreOnlyRead(t *testing.T) {
	l := spacious()
	got, ok := Join(l)
	if !ok || string(got) != "onetwothree" || !intact(l) {
		t.Fatalf("Join = %q, %t, and of what was handed in is left: %+v", got, ok, l)
	}
	joinsNot(t, l[:2])
	joinsNot(t, l[1:])
	if !intact(l) {
		t.Fatalf("of what was handed in without a part is left: %+v", l)
	}
	overwrite(got)
	if !intact(l) {
		t.Fatalf("the pieces change with the answer: %+v", l)
	}
	got, _ = Join(l)
	for i := range l {
		overwrite(l[i].Chunk.Data)
		l[i] = api.Piece{}
	}
	if string(got) != "onetwothree" {
		t.Errorf("the answer changes with the pieces: %q", got)
	}
}

// Z2: of one piece alone, or one that has all bytes, the answer is new memory, too.
func TestJoinOfOneIsNew(t *testing.T) {
	for _, data := range [][]string{{"hello"}, {"hello", ""}, {"", "hello"}, {"", "hello", ""}} {
		l := pieces(data...)
		got, _ := Join(l)
		overwrite(got)
		joins(t, l, "hello")
		got, _ = Join(l)
		for _, p := range l {
			overwrite(p.Chunk.Data)
		}
		if string(got) != "hello" {
			t.Errorf("Join of %q changes with the pieces: %q", data, got)
		}
	}
}

// Pieces may share their memory, as long as they are only read.
func TestJoinOfSharedData(t *testing.T) {
	b := []byte("abcd")
	l := []api.Piece{piece(1, false, ""), piece(2, true, ""), piece(0, false, "")}
	l[0].Chunk.Data, l[1].Chunk.Data, l[2].Chunk.Data = b[:2], b[1:], b
	joins(t, l, "abcdabbcd")
	if string(b) != "abcd" {
		t.Errorf("the bytes that were shared are %q", b)
	}
}

// Spare room is not looked at: what stands there is neither a part nor wrong.
func TestSpareRoomIsNotRead(t *testing.T) {
	l := []api.Piece{piece(0, false, "a"), piece(1, true, "b"), piece(1, true, "c"), piece(2, true, "d")}
	joinsNot(t, l[:0])
	joinsNot(t, l[:1])
	joins(t, l[:2], "ab")
	joinsNot(t, l[:3])
	splits(t, []byte(text)[:5], 3, "abc", "de")
	splits(t, []byte(text)[:3], 3, "abc")
	splits(t, []byte(text)[:2], 3, "ab")
}

// Z3: data that is nil, and data without entries, are the same.
func TestNilIsEmpty(t *testing.T) {
	for _, data := range [][]byte{nil, {}, []byte(text)[:0]} {
		l := pieces("a", "?", "b")
		l[1].Chunk.Data = data
		joins(t, l, "ab")
		joinsNot(t, l[:2])
		joinsNot(t, append(l, l[1]))
		joinsNot(t, []api.Piece{l[1], l[1], l[2]}) // as many as there should be, and one of them twice
	}
}

// Z5: what Join does not name means nothing, neither a piece's Number nor its chunk's kind.
func TestFieldsThatAreNotNamed(t *testing.T) {
	for _, n := range odd {
		l := pieces("one", "t", "three")
		for i := range l {
			p := &l[i]
			p.Number = n - i
			p.Chunk.Kind, p.Chunk.Tag, p.Chunk.Stream, p.Chunk.Mid, p.Chunk.Room = n, n+i, n-i, n+i, n
			p.Chunk.Ordered = i == 1
			p.Chunk.Spans, p.Chunk.Skips = make([]api.Span, i*5), make([]api.Skip, i*5)
		}
		joins(t, l, "onetthree")
		joinsNot(t, l[:2])
		joinsNot(t, l[1:])
	}
}
