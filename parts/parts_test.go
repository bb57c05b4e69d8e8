package parts

import (
	"bytes"
	"math"
	"slices"
	"strings"
	"testing"

	"braidline/api"
)

const text = "abcdefghijklmnopqrstuvwxyz0123456789ABCD"

func counts(t *testing.T, n, part, want int) {
	t.Helper()
	if got := Count(n, part); got != want {
		t.Errorf("Count(%d, %d) = %d, not %d", n, part, got, want)
	}
}

// splits says what Split must answer; Count goes by it.
func splits(t *testing.T, b []byte, part int, want ...string) {
	t.Helper()
	got := Split(b, part)
	if !slices.EqualFunc(got, want, func(b []byte, s string) bool { return string(b) == s }) {
		t.Errorf("Split(%q, %d) = %q, not %q", b, part, got, want)
	}
	counts(t, len(b), part, len(want))
}

// joins says of which bytes Join makes a message.
func joins(t *testing.T, l []api.Piece, want string) {
	t.Helper()
	got, ok := Join(l)
	if !ok || string(got) != want {
		t.Errorf("Join(%+v) = %q, %t, not %q", l, got, ok, want)
	}
}

// joinsNot says that Join makes none; beside that there are no bytes.
func joinsNot(t *testing.T, l []api.Piece) {
	t.Helper()
	if got, ok := Join(l); ok || len(got) != 0 {
		t.Errorf("Join(%+v) = %q, %t, not nothing", l, got, ok)
	}
}

func piece(part int, last bool, data string) api.Piece {
	return api.Piece{Chunk: api.Chunk{Kind: api.ChData, Part: part, Last: last, Data: []byte(data)}}
}

// pieces are these parts of a message, all of them.
func pieces(data ...string) []api.Piece {
	var l []api.Piece
	for i, s := range data {
		l = append(l, piece(i, i == len(data)-1, s))
	}
	return l
}

// eachOrder calls do with the pieces of l in every order.
func eachOrder(l []api.Piece, do func([]api.Piece)) {
	var grow func(ahead, left []api.Piece)
	grow = func(ahead, left []api.Piece) {
		if len(left) == 0 {
			do(ahead)
		}
		for i, p := range left {
			grow(append(slices.Clone(ahead), p), slices.Delete(slices.Clone(left), i, i+1))
		}
	}
	grow(nil, l)
}

func TestCount(t *testing.T) {
	for _, x := range []struct{ n, part, want int }{
		{1, 1, 1}, {1, 2, 1}, {2, 1, 2}, {4, 4, 1}, {5, 4, 2}, {7, 4, 2}, {8, 4, 2}, {9, 4, 3}, {60, 16, 4}, {60, 1, 60},
	} {
		counts(t, x.n, x.part, x.want)
	}
}

func TestCountOfNone(t *testing.T) {
	for _, n := range []int{math.MinInt, math.MinInt + 1, -100, -4, -1, 0} {
		for _, other := range []int{math.MinInt, -7, -4, -1, 0, 1, 3, 4, 100, math.MaxInt - 1, math.MaxInt} {
			counts(t, n, other, 0)
			counts(t, other, n, 0)
		}
	}
}

// Whatever numbers there are, no sum of them runs over.
func TestCountOfGreatNumbers(t *testing.T) {
	for _, x := range []struct{ n, part, want int }{
		{math.MaxInt, 1, math.MaxInt},
		{math.MaxInt - 1, 1, math.MaxInt - 1},
		{math.MaxInt, 2, math.MaxInt/2 + 1},
		{math.MaxInt - 1, 2, math.MaxInt / 2},
		{math.MaxInt, math.MaxInt, 1},
		{math.MaxInt, math.MaxInt - 1, 2},
		{math.MaxInt - 1, math.MaxInt, 1},
		{1, math.MaxInt, 1},
		{math.MaxInt32, 1, math.MaxInt32},
	} {
		counts(t, x.n, x.part, x.want)
	}
}

func TestSplit(t *testing.T) {
	splits(t, []byte("abcde"), 2, "ab", "cd", "e")
	splits(t, []byte("abcd"), 2, "ab", "cd")
	splits(t, []byte("abc"), 1, "a", "b", "c")
	splits(t, []byte("a"), 1, "a")
	splits(t, []byte("hello"), 4, "hell", "o")
	splits(t, []byte("hello"), 5, "hello")
	splits(t, []byte("hello"), 6, "hello")
	splits(t, []byte("hello"), math.MaxInt, "hello")
	splits(t, []byte("hello"), math.MaxInt-1, "hello")
	splits(t, []byte{0, 255, 0, 0}, 3, "\x00\xff\x00", "\x00")
}

func TestSplitOfNone(t *testing.T) {
	for _, part := range []int{math.MinInt, math.MinInt + 1, -5, -2, -1, 0} {
		splits(t, []byte("abcde"), part)
		splits(t, []byte("a"), part)
	}
	for _, part := range []int{math.MinInt, -1, 0, 1, 4, math.MaxInt} {
		splits(t, nil, part)
		splits(t, []byte{}, part)
		splits(t, []byte("abcde")[:0], part)
	}
}

// All parts but the last one have part bytes, that one at least one, and together they are what was split.
func TestSplitOfAllLengths(t *testing.T) {
	for n := 1; n <= len(text); n++ {
		for part := 1; part <= len(text)+2; part++ {
			var want []string
			for i := range n {
				if i%part == 0 {
					want = append(want, "")
				}
				want[len(want)-1] += text[i : i+1]
			}
			splits(t, []byte(text[:n]), part, want...)
		}
	}
}

func TestJoin(t *testing.T) {
	joins(t, pieces("a"), "a")
	joins(t, pieces("a", "b"), "ab")
	joins(t, pieces("hell", "o"), "hello")
	joins(t, pieces("\x00", "\xff\x00"), "\x00\xff\x00")
}

func TestJoinOfNone(t *testing.T) {
	joinsNot(t, nil)
	joinsNot(t, []api.Piece{})
	joinsNot(t, pieces("a")[:0])
}

func TestJoinInWhateverOrder(t *testing.T) {
	for n := 1; n <= 6; n++ {
		data := []string{"one", "t", "three", "44", "fiv", "6"}[:n]
		eachOrder(pieces(data...), func(l []api.Piece) { joins(t, l, strings.Join(data, "")) })
	}
}

// A part that is missing, there twice, or of another number: no message.
func TestJoinOfWrongParts(t *testing.T) {
	eachOrder(pieces("one", "t", "three", "44"), func(l []api.Piece) {
		for i, p := range l {
			joinsNot(t, slices.Delete(slices.Clone(l), i, i+1))
			joinsNot(t, append(slices.Clone(l), p))
			for _, part := range []int{math.MinInt, -4, -1, 0, 1, 2, 3, 4, 5, 255, 256, math.MaxInt} {
				if part != p.Chunk.Part {
					other := slices.Clone(l)
					other[i].Chunk.Part = part
					joinsNot(t, other)
				}
			}
		}
	})
}

// Just the highest one is Last: of all ways to say it one is right.
func TestJoinOfWrongLast(t *testing.T) {
	eachOrder(pieces("one", "t", "three", "44"), func(l []api.Piece) {
		for flags := range 16 {
			for i := range l {
				l[i].Chunk.Last = flags>>l[i].Chunk.Part&1 == 1
			}
			if flags == 8 {
				joins(t, l, "onetthree44")
			} else {
				joinsNot(t, l)
			}
		}
	})
}

// whole tells whether l's Parts are 0, 1 and so on, each once, and just the highest one is Last, by counting.
func whole(l []api.Piece) bool {
	times, lasts := map[int]int{}, map[int]int{}
	for _, p := range l {
		times[p.Chunk.Part]++
		if p.Chunk.Last {
			lasts[p.Chunk.Part]++
		}
	}
	for n := range len(l) {
		if times[n] != 1 {
			return false
		}
	}
	return len(l) > 0 && len(lasts) == 1 && lasts[len(l)-1] == 1
}

// Of all lists of up to 4 pieces, whose Parts are from -1 to 4, Join makes a message of those that are whole.
func TestJoinOfAllLists(t *testing.T) {
	names := []string{"?", "a", "bc", "", "d", "!"}
	var grow func(l []api.Piece)
	grow = func(l []api.Piece) {
		if whole(l) {
			joins(t, l, strings.Join(names[1:len(l)+1], ""))
		} else {
			joinsNot(t, l)
		}
		if len(l) == 4 {
			return
		}
		for part := -1; part <= 4; part++ {
			for _, last := range []bool{false, true} {
				grow(append(slices.Clone(l), piece(part, last, names[part+1])))
			}
		}
	}
	grow(nil)
}

// Parts may have no bytes, or more than a chunk may have: they are parts all the same.
func TestJoinOfPartsOfAnyLength(t *testing.T) {
	eachOrder(pieces("", text, "", "x"), func(l []api.Piece) { joins(t, l, text+"x") })
	eachOrder(pieces("", "", ""), func(l []api.Piece) {
		joins(t, l, "")
		for i, p := range l {
			joinsNot(t, slices.Delete(slices.Clone(l), i, i+1))
			joinsNot(t, append(slices.Clone(l), p))
		}
	})
	joins(t, pieces(""), "")
	joinsNot(t, []api.Piece{piece(0, false, "")})
	joinsNot(t, []api.Piece{piece(0, false, ""), piece(0, true, "")})
	joinsNot(t, []api.Piece{piece(1, true, ""), piece(1, true, "")})
}

// What a message was split into is that message, in whatever order, and if nothing of it is missing.
func TestSplitIsJoined(t *testing.T) {
	for n := 1; n <= len(text); n++ {
		for part := 1; part <= n+1; part++ {
			var l []api.Piece
			for i, b := range Split([]byte(text[:n]), part) {
				l = append(l, piece(i, i == Count(n, part)-1, string(b)))
			}
			joins(t, l, text[:n])
			slices.Reverse(l)
			joins(t, l, text[:n])
			joinsNot(t, l[1:])
			joinsNot(t, l[:len(l)-1])
		}
	}
}

// There may be more parts than a chunk can tell.
func TestManyParts(t *testing.T) {
	const many = 1 << 17
	b := bytes.Repeat([]byte(text), many/len(text)+1)[:many]
	for _, part := range []int{1, 3, 16, many - 1} {
		got := Split(b, part)
		if len(got) != Count(many, part) || !bytes.Equal(bytes.Join(got, nil), b) {
			t.Fatalf("Split of %d bytes in parts of %d: %d parts", many, part, len(got))
		}
		var l []api.Piece
		for i, b := range got {
			l = append(l, piece(i, i == len(got)-1, string(b)))
		}
		slices.Reverse(l)
		if again, ok := Join(l); !ok || !bytes.Equal(again, b) {
			t.Fatalf("Join of %d pieces: %d bytes, %t", len(l), len(again), ok)
		}
		l[len(l)/2].Chunk.Part = len(l)
		if again, ok := Join(l); ok || len(again) != 0 {
			t.Fatalf("Join of %d pieces, one of which is wrong: %d bytes, %t", len(l), len(again), ok)
		}
	}
}
