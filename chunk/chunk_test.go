package chunk

import (
	"bytes"
	"math"
	"reflect"
	"slices"
	"testing"

	"braidline/api"
)

// data is a data chunk that nothing is wrong with, but for what change does to it.
func data(change func(c *api.Chunk)) api.Chunk {
	c := api.Chunk{Kind: api.ChData, Tag: 300, Stream: 3, Mid: 513, Part: 7, Data: []byte{5, 6}}
	if change != nil {
		change(&c)
	}
	return c
}

// ofBytes is a data chunk of n bytes of data.
func ofBytes(n int) api.Chunk {
	return data(func(c *api.Chunk) { c.Data = bytes.Repeat([]byte{9}, n) })
}

// sack is a sack chunk with spans of Froms and Tos.
func sack(tag, room int, ends ...int) api.Chunk {
	c := api.Chunk{Kind: api.ChSack, Tag: tag, Room: room}
	for i := 0; i+1 < len(ends); i += 2 {
		c.Spans = append(c.Spans, api.Span{From: ends[i], To: ends[i+1]})
	}
	return c
}

func forward(tag int, l ...api.Skip) api.Chunk {
	return api.Chunk{Kind: api.ChForward, Tag: tag, Skips: l}
}

// same holds chunks against each other; nil and a list without entries are the same.
func same(a, b api.Chunk) bool {
	if !bytes.Equal(a.Data, b.Data) || !slices.Equal(a.Spans, b.Spans) || !slices.Equal(a.Skips, b.Skips) {
		return false
	}
	a.Data, a.Spans, a.Skips = nil, nil, nil
	b.Data, b.Spans, b.Skips = nil, nil, nil
	return reflect.DeepEqual(a, b)
}

type wrongCase struct {
	name string
	c    api.Chunk
	want api.Errno
}

// outside are numbers that are not from 0 to below end.
func outside(end int) []int {
	return []int{math.MinInt, -api.MaxTag, -1, end, end + 1, end + api.MaxTag, math.MaxInt}
}

func wrongOfKinds() []wrongCase {
	l := []wrongCase{{"no kind", api.Chunk{}, api.ErrKind}}
	for _, kind := range []int{math.MinInt, -1, 0, 4, 256 + api.ChData, math.MaxInt} {
		c := data(func(c *api.Chunk) { c.Kind = kind })
		l = append(l, wrongCase{"kind", c, api.ErrKind})
		c.Tag = -1
		l = append(l, wrongCase{"kind ahead of tag", c, api.ErrKind})
	}
	for _, tag := range outside(api.MaxTag) {
		l = append(l,
			wrongCase{"tag of data", data(func(c *api.Chunk) { c.Tag = tag }), api.ErrRange},
			wrongCase{"tag of a sack", sack(tag, 0), api.ErrRange},
			wrongCase{"tag of a forward", forward(tag), api.ErrRange},
			wrongCase{"tag ahead of data", data(func(c *api.Chunk) { c.Tag, c.Data = tag, nil }), api.ErrRange},
			wrongCase{"tag ahead of spans", sack(tag, 0, make([]int, 14)...), api.ErrRange},
			wrongCase{"tag ahead of skips", forward(tag, make([]api.Skip, 9)...), api.ErrRange})
	}
	return l
}

func wrongOfData() []wrongCase {
	l := []wrongCase{
		{"data", data(nil), api.OK},
		{"all noughts", api.Chunk{Kind: api.ChData, Data: []byte{0}}, api.OK},
		{"all at the top", api.Chunk{Kind: api.ChData, Tag: 65535, Stream: 3, Mid: 65535, Part: 255, Last: true, Ordered: true, Data: make([]byte, 16)}, api.OK},
		{"no bytes", ofBytes(0), api.ErrMuch},
		{"one byte", ofBytes(1), api.OK},
		{"MaxPart bytes", ofBytes(api.MaxPart), api.OK},
		{"one more than MaxPart bytes", ofBytes(api.MaxPart + 1), api.ErrMuch},
		{"256 bytes", ofBytes(256), api.ErrMuch},
		{"257 bytes", ofBytes(257), api.ErrMuch},
	}
	put := func(name string, end int, set func(c *api.Chunk, n int)) {
		for _, n := range []int{0, 1, end - 1} {
			l = append(l, wrongCase{name, data(func(c *api.Chunk) { set(c, n) }), api.OK})
		}
		for _, n := range outside(end) {
			c := data(func(c *api.Chunk) { set(c, n) })
			l = append(l, wrongCase{name, c, api.ErrRange})
			c.Data = nil
			l = append(l, wrongCase{name + " ahead of no bytes", c, api.ErrRange})
		}
	}
	put("stream", api.MaxStreams, func(c *api.Chunk, n int) { c.Stream = n })
	put("mid", api.MaxTag, func(c *api.Chunk, n int) { c.Mid = n })
	put("part", 256, func(c *api.Chunk, n int) { c.Part = n })
	return l
}

func wrongOfSacks() []wrongCase {
	l := []wrongCase{
		{"no spans", sack(0, 0), api.OK},
		{"all at the top", sack(65535, 65535, 2, 65535), api.OK},
		{"one number", sack(7, 0, 2, 2), api.OK},
		{"below 2", sack(7, 0, 1, 4), api.ErrRange},
		{"nought", sack(7, 0, 0, 4), api.ErrRange},
		{"below nought", sack(7, 0, -1, 4), api.ErrRange},
		{"least From", sack(7, 0, math.MinInt, 4), api.ErrRange},
		{"the last number", sack(7, 0, 65535, 65535), api.OK},
		{"To not small", sack(7, 0, 4, 65536), api.ErrRange},
		{"both not small", sack(7, 0, 65536, 65536), api.ErrRange},
		{"greatest To", sack(7, 0, 4, math.MaxInt), api.ErrRange},
		{"To below From", sack(7, 0, 4, 3), api.ErrRange},
		{"least To", sack(7, 0, 4, math.MinInt), api.ErrRange},
		{"a gap of one", sack(7, 0, 2, 4, 6, 6), api.OK},
		{"no gap", sack(7, 0, 2, 4, 5, 6), api.ErrRange},
		{"one number twice", sack(7, 0, 2, 4, 4, 6), api.ErrRange},
		{"the same twice", sack(7, 0, 2, 4, 2, 4), api.ErrRange},
		{"one within another", sack(7, 0, 2, 9, 4, 6), api.ErrRange},
		{"falling", sack(7, 0, 8, 9, 2, 4), api.ErrRange},
		{"the third too near", sack(7, 0, 2, 4, 6, 8, 9, 9), api.ErrRange},
		{"the third below the first", sack(7, 0, 5, 5, 7, 7, 3, 3), api.ErrRange},
		{"the second backwards", sack(7, 0, 2, 4, 9, 8), api.ErrRange},
		{"behind the greatest To", sack(7, 0, 2, math.MaxInt, 4, 5), api.ErrRange},
		{"the second not small", sack(7, 0, 2, 4, 6, 65536), api.ErrRange},
		{"MaxSpans", sack(7, 0, 2, 2, 4, 4, 6, 6, 8, 8, 10, 10, 12, 12), api.OK},
		{"one more than MaxSpans", sack(7, 0, 2, 2, 4, 4, 6, 6, 8, 8, 10, 10, 12, 12, 14, 14), api.ErrMany},
		{"many ahead of what they are", sack(7, 0, make([]int, 14)...), api.ErrMany},
		{"the last of MaxSpans", sack(7, 0, 2, 2, 4, 4, 6, 6, 8, 8, 10, 10, 11, 12), api.ErrRange},
	}
	for _, room := range []int{0, 1, 400, 65535} {
		l = append(l, wrongCase{"room", sack(7, room), api.OK})
	}
	for _, room := range outside(api.MaxTag) {
		l = append(l, wrongCase{"room", sack(7, room), api.ErrRange},
			wrongCase{"room ahead of many", sack(7, room, make([]int, 14)...), api.ErrRange})
	}
	return l
}

func wrongOfForwards() []wrongCase {
	l := []wrongCase{
		{"no skips", forward(0), api.OK},
		{"a skip of noughts", forward(9, api.Skip{}), api.OK},
		{"all at the top", forward(65535, api.Skip{Stream: 3, Mid: 65535, Ordered: true}), api.OK},
		{"one skip twice", forward(9, api.Skip{Stream: 1, Mid: 2}, api.Skip{Stream: 1, Mid: 2}), api.OK},
		{"falling", forward(9, api.Skip{Stream: 3, Mid: 9}, api.Skip{Stream: 1, Mid: 2}), api.OK},
		{"MaxSkips", forward(9, make([]api.Skip, api.MaxSkips)...), api.OK},
		{"one more than MaxSkips", forward(9, make([]api.Skip, api.MaxSkips+1)...), api.ErrMany},
		{"many ahead of what they are", forward(9, append(make([]api.Skip, 8), api.Skip{Stream: 4, Mid: -1})...), api.ErrMany},
		{"the last of MaxSkips", forward(9, append(make([]api.Skip, 7), api.Skip{Mid: -1})...), api.ErrRange},
	}
	for _, n := range outside(api.MaxStreams) {
		l = append(l, wrongCase{"stream", forward(9, api.Skip{Stream: n}), api.ErrRange},
			wrongCase{"the second's stream", forward(9, api.Skip{}, api.Skip{Stream: n}), api.ErrRange})
	}
	for _, n := range outside(api.MaxTag) {
		l = append(l, wrongCase{"mid", forward(9, api.Skip{Mid: n}), api.ErrRange},
			wrongCase{"the second's mid", forward(9, api.Skip{}, api.Skip{Mid: n}), api.ErrRange})
	}
	return l
}

func allWrongCases() []wrongCase {
	return slices.Concat(wrongOfKinds(), wrongOfData(), wrongOfSacks(), wrongOfForwards())
}

func TestWrong(t *testing.T) {
	for _, x := range allWrongCases() {
		if got := Wrong(x.c); got != x.want {
			t.Errorf("%s: Wrong(%+v) = %d, not %d", x.name, x.c, got, x.want)
		}
	}
}

// Every sack of two spans of small numbers, held against what the chapter says of their numbers.
func TestWrongOfTwoSpans(t *testing.T) {
	const end = 8
	for n := range end * end * end * end {
		a := api.Span{From: n % end, To: n / end % end}
		b := api.Span{From: n / end / end % end, To: n / end / end / end}
		want := api.OK
		if a.From < 2 || a.To < a.From || b.From < 2 || b.From-a.To <= 1 || b.To < b.From {
			want = api.ErrRange
		}
		c := sack(0, 0, a.From, a.To, b.From, b.To)
		if got := Wrong(c); got != want {
			t.Fatalf("Wrong(%+v) = %d, not %d", c, got, want)
		}
	}
}

// told are chunks, and the bytes of each.
var told = []struct {
	c api.Chunk
	b []byte
}{
	{api.Chunk{Kind: 1, Data: []byte{120}}, []byte{1, 8, 0, 0, 0, 0, 0, 0, 0, 120}},
	{api.Chunk{Kind: 1, Tag: 300, Stream: 3, Mid: 513, Part: 7, Data: []byte{5, 6}}, []byte{1, 9, 1, 44, 3, 0, 2, 1, 7, 5, 6}},
	{api.Chunk{Kind: 1, Tag: 300, Stream: 2, Mid: 513, Part: 7, Last: true, Data: []byte{5, 6}}, []byte{1, 9, 1, 44, 2, 1, 2, 1, 7, 5, 6}},
	{api.Chunk{Kind: 1, Tag: 300, Stream: 1, Mid: 513, Part: 7, Ordered: true, Data: []byte{5, 6}}, []byte{1, 9, 1, 44, 1, 2, 2, 1, 7, 5, 6}},
	{api.Chunk{Kind: 1, Tag: 65535, Stream: 3, Mid: 65535, Part: 255, Last: true, Ordered: true, Data: []byte("0123456789abcdef")}, append([]byte{1, 23, 255, 255, 3, 3, 255, 255, 255}, "0123456789abcdef"...)},
	{api.Chunk{Kind: 1, Tag: 256, Mid: 255, Data: []byte{0, 255, 1}}, []byte{1, 10, 1, 0, 0, 0, 0, 255, 0, 0, 255, 1}},
	{api.Chunk{Kind: 2, Tag: 7, Room: 400}, []byte{2, 4, 0, 7, 1, 144}},
	{api.Chunk{Kind: 2}, []byte{2, 4, 0, 0, 0, 0}},
	{api.Chunk{Kind: 2, Tag: 258, Room: 65535, Spans: []api.Span{{From: 2, To: 4}, {From: 6, To: 6}}}, []byte{2, 12, 1, 2, 255, 255, 0, 2, 0, 4, 0, 6, 0, 6}},
	{api.Chunk{Kind: 2, Tag: 65535, Spans: []api.Span{{From: 259, To: 65535}}}, []byte{2, 8, 255, 255, 0, 0, 1, 3, 255, 255}},
	{sack(1, 2, 2, 2, 4, 4, 6, 6, 8, 8, 10, 10, 12, 12), []byte{2, 28, 0, 1, 0, 2, 0, 2, 0, 2, 0, 4, 0, 4, 0, 6, 0, 6, 0, 8, 0, 8, 0, 10, 0, 10, 0, 12, 0, 12}},
	{api.Chunk{Kind: 3, Tag: 9}, []byte{3, 2, 0, 9}},
	{api.Chunk{Kind: 3, Tag: 2313, Skips: []api.Skip{{Stream: 2, Mid: 258, Ordered: true}, {}}}, []byte{3, 10, 9, 9, 2, 1, 1, 2, 0, 0, 0, 0}},
	{api.Chunk{Kind: 3, Skips: []api.Skip{{Stream: 3, Mid: 65535}}}, []byte{3, 6, 0, 0, 3, 0, 255, 255}},
	{forward(1, make([]api.Skip, 8)...), append([]byte{3, 34, 0, 1}, make([]byte, 32)...)},
}

func TestBytes(t *testing.T) {
	for _, x := range told {
		b, err := Bytes(x.c)
		if err != api.OK || !bytes.Equal(b, x.b) {
			t.Errorf("Bytes(%+v) = %v, %d, not %v", x.c, b, err, x.b)
		}
	}
}

// Bytes has what Wrong says, and beside an error no bytes (Z4).
func TestBytesOfWrongChunks(t *testing.T) {
	for _, x := range allWrongCases() {
		b, err := Bytes(x.c)
		if err != x.want || (err == api.OK) != (len(b) > 0) {
			t.Errorf("%s: Bytes(%+v) = %v, %d, not %d", x.name, x.c, b, err, x.want)
		}
	}
}

func TestSize(t *testing.T) {
	for _, x := range []struct{ data, want int }{{2, 11}, {0, 9}, {1, 10}, {16, 25}, {17, 26}, {1000, 1009}, {-1, 8}, {-20, -11}} {
		if got := Size(x.data); got != x.want {
			t.Errorf("Size(%d) = %d, not %d", x.data, got, x.want)
		}
	}
	for n := 1; n <= api.MaxPart; n++ {
		if b, _ := Bytes(ofBytes(n)); Size(n) != len(b) {
			t.Errorf("Size(%d) = %d, but there are %d", n, Size(n), len(b))
		}
	}
}

// What Bytes tells Parse reads, whatever stands behind it.
func TestParse(t *testing.T) {
	for _, x := range told {
		for _, behind := range [][]byte{nil, {0}, {1}, {1, 2}, x.b, make([]byte, 300)} {
			c, n, err := Parse(slices.Concat(x.b, behind))
			if err != api.OK || n != len(x.b) || !same(c, x.c) {
				t.Errorf("Parse(%v and %d more) = %+v, %d, %d, not %+v", x.b, len(behind), c, n, err, x.c)
			}
		}
	}
}

// parsedTo says which error Parse must answer, beside which all is zero (Z4).
func parsedTo(t *testing.T, b []byte, want api.Errno) {
	t.Helper()
	c, n, err := Parse(b)
	if err != want {
		t.Errorf("Parse(%v) = %d, not %d", b, err, want)
	}
	if err != api.OK && (n != 0 || !same(c, api.Chunk{})) {
		t.Errorf("Parse(%v): %+v and %d beside error %d", b, c, n, err)
	}
}

func TestParseEndsTooSoon(t *testing.T) {
	for _, x := range told {
		for n := range x.b {
			parsedTo(t, x.b[:n], api.ErrEnd)
		}
	}
	for kind := range 256 {
		parsedTo(t, []byte{byte(kind)}, api.ErrEnd)
		parsedTo(t, []byte{byte(kind), 1}, api.ErrEnd) // ahead of ErrKind, too
		parsedTo(t, append([]byte{byte(kind), 255}, make([]byte, 254)...), api.ErrEnd)
	}
	parsedTo(t, []byte{1, 8, 0, 1, 0, 4, 0, 0, 0}, api.ErrEnd) // ahead of ErrForm
	parsedTo(t, []byte{3, 6, 0, 1, 9, 1, 0}, api.ErrEnd)       // ahead of ErrRange
}

func TestParseKind(t *testing.T) {
	for kind := range 256 {
		if kind == api.ChData || kind == api.ChSack || kind == api.ChForward {
			continue
		}
		for _, n := range []int{0, 1, 2, 4, 8, 255} { // ahead of ErrForm
			parsedTo(t, append([]byte{byte(kind), byte(n)}, make([]byte, n)...), api.ErrKind)
		}
	}
}

// ofLength are bytes of a kind, of which n noughts are told.
func ofLength(kind, n int) []byte {
	return append([]byte{byte(kind), byte(n)}, make([]byte, n)...)
}

func TestParseLengths(t *testing.T) {
	for n := range 256 {
		want := api.OK
		switch {
		case n < 7:
			want = api.ErrForm
		case n < 8 || n > 7+16:
			want = api.ErrMuch
		}
		parsedTo(t, ofLength(api.ChData, n), want)

		want = api.OK
		switch {
		case n%4 != 0 || n < 4:
			want = api.ErrForm
		case n > 4+6*4:
			want = api.ErrMany
		case n > 4:
			want = api.ErrRange // a span of noughts
		}
		parsedTo(t, ofLength(api.ChSack, n), want)

		want = api.OK
		switch {
		case n%4 != 2:
			want = api.ErrForm
		case n > 2+8*4:
			want = api.ErrMany
		}
		parsedTo(t, ofLength(api.ChForward, n), want)
	}
}

func TestParseFlags(t *testing.T) {
	for n := range 256 {
		flags := byte(n)
		want := api.OK
		if n > 3 {
			want = api.ErrForm
		}
		b := []byte{1, 8, 0, 1, 2, flags, 0, 3, 4, 9}
		parsedTo(t, b, want)
		if c, _, err := Parse(b); err == api.OK && (c.Last != (n == 1 || n == 3) || c.Ordered != (n >= 2)) {
			t.Errorf("flags %d: %+v", n, c)
		}

		want = api.OK
		if n > 1 {
			want = api.ErrForm
		}
		for _, b := range [][]byte{{3, 6, 0, 1, 2, flags, 0, 3}, {3, 10, 0, 1, 2, 0, 0, 3, 2, flags, 0, 3}, {3, 10, 0, 1, 2, flags, 0, 3, 2, 0, 0, 3}} {
			parsedTo(t, b, want)
		}
		if c, _, err := Parse([]byte{3, 6, 0, 1, 2, flags, 0, 3}); err == api.OK && c.Skips[0].Ordered != (n == 1) {
			t.Errorf("flags %d: %+v", n, c)
		}
	}
}

// Flags that there are not are ErrForm ahead of what is wrong with the chunk.
func TestParseFormAheadOfWrong(t *testing.T) {
	for _, b := range [][]byte{
		{1, 8, 0, 1, 4, 4, 0, 0, 0, 9},
		{1, 7, 0, 1, 0, 4, 0, 0, 0},
		append([]byte{1, 24, 0, 1, 0, 4, 0, 0, 0}, make([]byte, 17)...),
		{3, 6, 0, 1, 9, 2, 0, 3},
		{3, 10, 0, 1, 9, 0, 0, 3, 0, 2, 0, 0},
		append(append([]byte{3, 38, 0, 1}, make([]byte, 32)...), 0, 2, 0, 0),
	} {
		parsedTo(t, b, api.ErrForm)
	}
}

func TestParseWrong(t *testing.T) {
	for _, x := range []struct {
		b    []byte
		want api.Errno
	}{
		{[]byte{1, 8, 0, 1, 3, 0, 0, 0, 0, 9}, api.OK},
		{[]byte{1, 8, 0, 1, 4, 0, 0, 0, 0, 9}, api.ErrRange},
		{[]byte{1, 8, 0, 1, 255, 0, 0, 0, 0, 9}, api.ErrRange},
		{[]byte{1, 7, 0, 1, 3, 0, 0, 0, 0}, api.ErrMuch},
		{[]byte{1, 7, 0, 1, 4, 0, 0, 0, 0}, api.ErrRange},
		{[]byte{2, 8, 0, 1, 0, 2, 0, 2, 0, 2}, api.OK},
		{[]byte{2, 8, 0, 1, 0, 2, 0, 1, 0, 2}, api.ErrRange},
		{[]byte{2, 8, 0, 1, 0, 2, 0, 3, 0, 2}, api.ErrRange},
		{[]byte{2, 8, 0, 1, 0, 2, 1, 0, 0, 255}, api.ErrRange},
		{[]byte{2, 12, 0, 1, 0, 2, 0, 2, 0, 4, 0, 6, 0, 6}, api.OK},
		{[]byte{2, 12, 0, 1, 0, 2, 0, 2, 0, 4, 0, 5, 0, 6}, api.ErrRange},
		{[]byte{3, 6, 0, 1, 3, 1, 0, 3}, api.OK},
		{[]byte{3, 6, 0, 1, 4, 1, 0, 3}, api.ErrRange},
		{[]byte{3, 10, 0, 1, 3, 1, 0, 3, 9, 0, 0, 0}, api.ErrRange},
	} {
		parsedTo(t, x.b, x.want)
	}
}
