package packet

import (
	"bytes"
	"math"
	"reflect"
	"slices"
	"testing"

	"braidline/api"
)

// told are chunks, and the bytes of each, as chapter 2 has them.
var told = []struct {
	c api.Chunk
	b []byte
}{
	{api.Chunk{Kind: 2, Tag: 7, Room: 400}, []byte{2, 4, 0, 7, 1, 144}},
	{api.Chunk{Kind: 1, Tag: 300, Stream: 3, Mid: 513, Part: 7, Last: true, Data: []byte{5, 6}}, []byte{1, 9, 1, 44, 3, 1, 2, 1, 7, 5, 6}},
	{api.Chunk{Kind: 3, Tag: 9}, []byte{3, 2, 0, 9}},
	{api.Chunk{Kind: 1, Tag: 65535, Stream: 1, Mid: 65535, Part: 255, Ordered: true, Data: []byte("0123456789abcdef")}, append([]byte{1, 23, 255, 255, 1, 2, 255, 255, 255}, "0123456789abcdef"...)},
	{api.Chunk{Kind: 3, Tag: 2313, Skips: []api.Skip{{Stream: 2, Mid: 258, Ordered: true}, {}}}, []byte{3, 10, 9, 9, 2, 1, 1, 2, 0, 0, 0, 0}},
	{api.Chunk{Kind: 2, Tag: 258, Spans: []api.Span{{From: 2, To: 4}, {From: 6, To: 6}}}, []byte{2, 12, 1, 2, 0, 0, 0, 2, 0, 4, 0, 6, 0, 6}},
}

// wrongChunks are chunks that have no bytes, and why.
var wrongChunks = []struct {
	c    api.Chunk
	want api.Errno
}{
	{api.Chunk{}, api.ErrKind},
	{api.Chunk{Kind: 4, Data: []byte{1}}, api.ErrKind},
	{api.Chunk{Kind: 1, Tag: -1, Data: []byte{1}}, api.ErrRange},
	{api.Chunk{Kind: 1}, api.ErrMuch},
	{api.Chunk{Kind: 1, Data: make([]byte, 17)}, api.ErrMuch},
	{api.Chunk{Kind: 2, Spans: make([]api.Span, 7)}, api.ErrMany},
	{api.Chunk{Kind: 2, Spans: []api.Span{{From: 1, To: 2}}}, api.ErrRange},
	{api.Chunk{Kind: 3, Skips: make([]api.Skip, 9)}, api.ErrMany},
}

// wrongBytes are bytes that are no chunk, and why; all of their bytes are there.
var wrongBytes = []struct {
	b    []byte
	want api.Errno
}{
	{[]byte{0, 0}, api.ErrKind},
	{[]byte{4, 2, 0, 1}, api.ErrKind},
	{[]byte{2, 5, 0, 1, 0, 1, 0}, api.ErrForm},
	{[]byte{1, 8, 0, 1, 0, 4, 0, 0, 0, 9}, api.ErrForm},
	{[]byte{3, 6, 0, 1, 4, 1, 0, 3}, api.ErrRange},
	{append([]byte{1, 24}, make([]byte, 24)...), api.ErrMuch},
	{append([]byte{3, 38}, make([]byte, 38)...), api.ErrMany},
}

// same holds lists of chunks against each other; nil and a list without entries are the same.
func same(a, b []api.Chunk) bool { return slices.EqualFunc(a, b, sameChunk) }

func sameChunk(a, b api.Chunk) bool {
	if !bytes.Equal(a.Data, b.Data) || !slices.Equal(a.Spans, b.Spans) || !slices.Equal(a.Skips, b.Skips) {
		return false
	}
	a.Data, a.Spans, a.Skips = nil, nil, nil
	b.Data, b.Spans, b.Skips = nil, nil, nil
	return reflect.DeepEqual(a, b)
}

// eachRow calls do with every row of 1 to 3 told chunks, and of all of them, with the bytes of each.
func eachRow(do func(l []api.Chunk, bs [][]byte)) {
	var grow func(l []api.Chunk, bs [][]byte)
	grow = func(l []api.Chunk, bs [][]byte) {
		if len(l) > 0 {
			do(l, bs)
		}
		if len(l) == 3 {
			return
		}
		for _, x := range told {
			grow(append(slices.Clone(l), x.c), append(slices.Clone(bs), x.b))
		}
	}
	grow(nil, nil)
	l, bs := allTold()
	do(l, bs)
}

// allTold are all told chunks, and the bytes of each.
func allTold() (l []api.Chunk, bs [][]byte) {
	for _, x := range told {
		l = append(l, x.c)
		bs = append(bs, x.b)
	}
	return l, bs
}

// bytesAre says what Bytes must answer; beside an error there are no bytes (Z4).
func bytesAre(t *testing.T, l []api.Chunk, most int, b []byte, err api.Errno) {
	t.Helper()
	got, gotErr := Bytes(l, most)
	if gotErr != err || !bytes.Equal(got, b) {
		t.Errorf("Bytes(%+v, %d) = %v, %d, not %v, %d", l, most, got, gotErr, b, err)
	}
}

// parsed says what Parse must answer; beside an error there are no chunks (Z4).
func parsed(t *testing.T, b []byte, l []api.Chunk, err api.Errno) {
	t.Helper()
	got, gotErr := Parse(b)
	if gotErr != err || !same(got, l) {
		t.Errorf("Parse(%v) = %+v, %d, not %+v, %d", b, got, gotErr, l, err)
	}
}

func fits(t *testing.T, l []api.Chunk, most, want int) {
	t.Helper()
	if got := Fit(l, most); got != want {
		t.Errorf("Fit(%+v, %d) = %d, not %d", l, most, got, want)
	}
}

// anyMost are bounds of all sizes.
var anyMost = []int{math.MinInt, math.MinInt + 1, -1, 0, 1, 40, 120, math.MaxInt - 1, math.MaxInt}

func TestBytes(t *testing.T) {
	eachRow(func(l []api.Chunk, bs [][]byte) {
		all := slices.Concat(bs...)
		for _, most := range []int{len(all), len(all) + 1, 2 * len(all), math.MaxInt} {
			bytesAre(t, l, most, all, api.OK)
		}
		for _, most := range []int{len(all) - 1, len(bs[0]) - 1, 1, 0, -1, -len(all), math.MinInt} {
			bytesAre(t, l, most, nil, api.ErrMuch)
		}
	})
}

func TestBytesOfNone(t *testing.T) {
	for _, most := range anyMost {
		bytesAre(t, nil, most, nil, api.ErrMany)
		bytesAre(t, []api.Chunk{}, most, nil, api.ErrMany)
	}
}

// A chunk's error is told wherever it stands, and however many bytes there may be.
func TestBytesOfWrongChunks(t *testing.T) {
	right, _ := allTold()
	for _, x := range wrongChunks {
		for at := range len(right) + 1 {
			l := slices.Insert(slices.Clone(right), at, x.c)
			for _, most := range anyMost {
				bytesAre(t, l, most, nil, x.want)
			}
		}
	}
}

func TestBytesTellsTheFirstError(t *testing.T) {
	for _, x := range wrongChunks {
		for _, y := range wrongChunks {
			bytesAre(t, []api.Chunk{x.c, y.c}, 100, nil, x.want)
			bytesAre(t, []api.Chunk{told[0].c, x.c, told[1].c, y.c}, 0, nil, x.want)
		}
	}
}

func TestParse(t *testing.T) {
	eachRow(func(l []api.Chunk, bs [][]byte) {
		parsed(t, slices.Concat(bs...), l, api.OK)
	})
}

func TestParseOfNone(t *testing.T) {
	parsed(t, nil, nil, api.ErrMany)
	parsed(t, []byte{}, nil, api.ErrMany)
	parsed(t, told[0].b[:0], nil, api.ErrMany)
}

// Of bytes that end between chunks those ahead are told; of bytes that end within one nothing is.
func TestParseEndsTooSoon(t *testing.T) {
	eachRow(func(l []api.Chunk, bs [][]byte) {
		all := slices.Concat(bs...)
		from := 0
		for i, b := range bs {
			for n := 1; n < len(b); n++ {
				parsed(t, all[:from+n], nil, api.ErrEnd)
			}
			from += len(b)
			parsed(t, all[:from], l[:i+1], api.OK)
		}
	})
}

func TestParseOfWrongChunks(t *testing.T) {
	_, right := allTold()
	for _, x := range wrongBytes {
		for at := range len(right) + 1 {
			parsed(t, slices.Concat(slices.Insert(slices.Clone(right), at, x.b)...), nil, x.want)
		}
	}
}

func TestParseTellsTheFirstError(t *testing.T) {
	for _, x := range wrongBytes {
		for _, y := range wrongBytes {
			parsed(t, slices.Concat(x.b, y.b), nil, x.want)
			parsed(t, slices.Concat(told[1].b, x.b, told[2].b, y.b), nil, x.want)
		}
		for _, more := range [][]byte{{1}, {1, 1}, {0}, {9, 200, 1}} {
			parsed(t, slices.Concat(x.b, more), nil, x.want)
			parsed(t, slices.Concat(told[1].b, more), nil, api.ErrEnd)
		}
	}
}

// A packet of bytes may be as long as it likes: what it may have at most, Bytes alone is told.
func TestManyChunks(t *testing.T) {
	const many = 20000
	l := slices.Repeat([]api.Chunk{told[0].c, told[2].c}, many)
	b := bytes.Repeat(slices.Concat(told[0].b, told[2].b), many)
	got, err := Bytes(l, 10*many)
	if err != api.OK || !bytes.Equal(got, b) {
		t.Errorf("Bytes of %d chunks: %d bytes, %d", len(l), len(got), err)
	}
	if got, err := Bytes(l, 10*many-1); err != api.ErrMuch || len(got) != 0 {
		t.Errorf("Bytes of %d chunks, a byte less: %d bytes, %d", len(l), len(got), err)
	}
	again, err := Parse(b)
	if err != api.OK || !same(again, l) {
		t.Errorf("Parse of %d chunks: %d, %d", len(l), len(again), err)
	}
	for _, x := range []struct{ most, want int }{{10 * many, 2 * many}, {10*many - 1, 2*many - 1}, {10*many - 5, 2*many - 2}, {math.MaxInt, 2 * many}} {
		if got := Fit(l, x.most); got != x.want {
			t.Errorf("Fit of %d chunks in %d: %d, not %d", len(l), x.most, got, x.want)
		}
	}
}

func TestFit(t *testing.T) {
	eachRow(func(l []api.Chunk, bs [][]byte) {
		sum := 0
		for i, b := range bs {
			for most := sum; most < sum+len(b); most++ {
				fits(t, l, most, i)
			}
			sum += len(b)
		}
		for _, most := range []int{sum, sum + 1, 2 * sum, math.MaxInt - 1, math.MaxInt} {
			fits(t, l, most, len(l))
		}
		for _, most := range []int{-1, -sum, math.MinInt + 1, math.MinInt} {
			fits(t, l, most, 0)
		}
	})
}

func TestFitOfNone(t *testing.T) {
	for _, most := range anyMost {
		fits(t, nil, most, 0)
		fits(t, []api.Chunk{}, most, 0)
	}
}

// A chunk that would fit does not, behind one that doesn't.
func TestFitGoesNoFurther(t *testing.T) {
	small, great := told[2], told[3]
	l := []api.Chunk{small.c, great.c, small.c, small.c}
	for most := len(small.b); most < len(small.b)+len(great.b); most++ {
		fits(t, l, most, 1)
	}
	fits(t, []api.Chunk{great.c, small.c}, len(small.b), 0)
}

func TestFitOfWrongChunks(t *testing.T) {
	right, _ := allTold()
	for _, x := range wrongChunks {
		for at := range len(right) + 1 {
			l := slices.Insert(slices.Clone(right), at, x.c)
			for most := range 100 {
				fits(t, l, most, min(at, Fit(right, most)))
			}
			fits(t, l, math.MaxInt, at)
			fits(t, l, math.MinInt, 0)
		}
	}
}

// As many as Fit tells have Bytes, and one more has not.
func TestFitGoesByBytes(t *testing.T) {
	eachRow(func(l []api.Chunk, bs [][]byte) {
		for most := -2; most < 80; most++ {
			n := Fit(l, most)
			if _, err := Bytes(l[:n], most); n > 0 && err != api.OK {
				t.Errorf("Fit(%+v, %d) = %d, but Bytes of these is %d", l, most, n, err)
			}
			if n == len(l) {
				continue
			}
			if _, err := Bytes(l[:n+1], most); err != api.ErrMuch {
				t.Errorf("Fit(%+v, %d) = %d, but Bytes of one more is %d", l, most, n, err)
			}
		}
	})
}
