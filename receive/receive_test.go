package receive

import (
	"bytes"
	"fmt"
	"slices"
	"strings"
	"testing"

	"braidline/api"
	"braidline/chunk"
	"braidline/serial"
)

// ordered is a part of a message that has its turn; its text ends with a full stop if it is the last one, which is not of its bytes.
func ordered(tag, stream, mid, part int, text string) api.Chunk {
	b, last := strings.CutSuffix(text, ".")
	return api.Chunk{Kind: api.ChData, Tag: tag, Stream: stream, Mid: mid, Part: part, Last: last, Ordered: true, Data: []byte(b)}
}

// loose is likewise a part of a message that waits for no other one.
func loose(tag, stream, mid, part int, text string) api.Chunk {
	c := ordered(tag, stream, mid, part, text)
	c.Ordered = false
	return c
}

func forward(tag int, skips ...api.Skip) api.Chunk {
	return api.Chunk{Kind: api.ChForward, Tag: tag, Skips: skips}
}

// upTo skips ordered messages of stream, and without one alone.
func upTo(stream, mid int) api.Skip    { return api.Skip{Stream: stream, Mid: mid, Ordered: true} }
func without(stream, mid int) api.Skip { return api.Skip{Stream: stream, Mid: mid} }

// come has c come to r: forwards by Forward, all else by Data.
func come(r api.Receiver, c api.Chunk) api.Receiver {
	if c.Kind == api.ChForward {
		return Forward(r, c)
	}
	return Data(r, c)
}

// after is a receiver of so many streams to which these have come; the first part's number is 1.
func after(streams int, l ...api.Chunk) api.Receiver {
	r := New(api.Config{Streams: streams, First: 1})
	for _, c := range l {
		r = come(r, c)
	}
	return r
}

// tell is r in short: Cum, spans, pieces by their numbers, turns, and what was delivered (/ stands in ordered ones, ~ in others).
func tell(r api.Receiver) string {
	var spans, pieces, log []string
	for _, s := range r.Spans {
		spans = append(spans, fmt.Sprintf("%d-%d", s.From, s.To))
	}
	for _, p := range r.Pieces {
		pieces = append(pieces, fmt.Sprintf("%d=%s", p.Number, p.Chunk.Data))
	}
	for _, a := range r.Log {
		sign := "~"
		if a.Ordered {
			sign = "/"
		}
		log = append(log, fmt.Sprintf("%d%s%d=%s", a.Stream, sign, a.Mid, a.Data))
	}
	return fmt.Sprintf("%d (%s) [%s] %v %s", r.Cum, strings.Join(spans, " "), strings.Join(pieces, " "), r.Turn, strings.Join(log, " "))
}

func is(t *testing.T, r api.Receiver, want string) {
	t.Helper()
	if got := tell(r); strings.TrimSpace(got) != want {
		t.Errorf("%s comes, not %s", got, want)
	}
}

// step is what comes, and what the receiver is then.
type step struct {
	c    api.Chunk
	want string
}

func goes(t *testing.T, c api.Config, l ...step) {
	t.Helper()
	r := New(c)
	for _, s := range l {
		r = come(r, s.c)
		is(t, r, s.want)
	}
}

// nothing: c changes nothing of r.
func nothing(t *testing.T, r api.Receiver, c api.Chunk) {
	t.Helper()
	for name, call := range map[string]func(api.Receiver, api.Chunk) api.Receiver{"Data": Data, "Forward": Forward} {
		if c.Kind == api.ChData && name == "Forward" || c.Kind == api.ChForward && name == "Data" {
			continue
		}
		if got := call(r, c); !same(got, r) {
			t.Errorf("%s of %+v makes %+v of %+v", name, c, got, r)
		}
	}
}

// same holds receivers against each other; nil and a list without entries are the same.
func same(a, b api.Receiver) bool {
	return a.Config == b.Config && a.Cum == b.Cum && slices.Equal(a.Spans, b.Spans) && slices.Equal(a.Turn, b.Turn) &&
		slices.EqualFunc(a.Pieces, b.Pieces, func(x, y api.Piece) bool { return x.Number == y.Number && alike(x.Chunk, y.Chunk) }) &&
		slices.EqualFunc(a.Log, b.Log, func(x, y api.Arrival) bool {
			return x.Stream == y.Stream && x.Mid == y.Mid && x.Ordered == y.Ordered && bytes.Equal(x.Data, y.Data)
		})
}

func alike(x, y api.Chunk) bool {
	numbers := func(c api.Chunk) [6]int { return [...]int{c.Kind, c.Tag, c.Stream, c.Mid, c.Part, c.Room} }
	return numbers(x) == numbers(y) && x.Last == y.Last && x.Ordered == y.Ordered &&
		bytes.Equal(x.Data, y.Data) && slices.Equal(x.Spans, y.Spans) && slices.Equal(x.Skips, y.Skips)
}

func TestNew(t *testing.T) {
	for streams, turn := range [][]int{{}, {0}, {0, 0}, {0, 0, 0}, {0, 0, 0, 0}, {0, 0, 0, 0, 0}} {
		for _, first := range []int{0, 1, 7, 65535, 65536, -5, 1 << 40, -1 << 40} {
			c := api.Config{Streams: streams, Part: 2, Packet: 3, Paths: 4, Turns: 5, Waiting: 6, First: first}
			if got, want := New(c), (api.Receiver{Config: c, Cum: first - 1, Turn: turn}); !same(got, want) {
				t.Errorf("New(%+v) = %+v", c, got)
			}
		}
	}
	is(t, New(api.Config{Streams: 2, First: 65534}), "65533 () [] [0 0]")
	is(t, New(api.Config{Streams: 1}), "-1 () [] [0]")
	is(t, New(api.Config{}), "-1 () [] []")
	is(t, New(api.Config{Streams: -1, First: 1}), "0 () [] []")
}

func TestOwn(t *testing.T) {
	full := api.Receiver{Config: api.Config{Streams: 1, Part: 2, Packet: 3, Paths: 4, Turns: 5, Waiting: 6, First: 7}, Cum: 8,
		Spans: []api.Span{{From: 9, To: 10}, {From: 12, To: 13}},
		Pieces: []api.Piece{{Number: 14, Chunk: api.Chunk{Kind: 15, Tag: 16, Stream: 17, Mid: 18, Part: 19, Last: true, Ordered: true, Data: []byte("abc"),
			Spans: []api.Span{{From: 20, To: 21}}, Room: 22, Skips: []api.Skip{{Stream: 23, Mid: 24, Ordered: true}}}}, {Number: 25}},
		Turn: []int{26, 27},
		Log:  []api.Arrival{{Stream: 28, Mid: 29, Ordered: true, Data: []byte("de")}, {Stream: 30}}}
	for _, r := range []api.Receiver{{}, full, New(full.Config), after(2, ordered(1, 0, 0, 0, "a."), ordered(3, 1, 1, 0, "b."))} {
		if got := Own(r); !same(got, r) {
			t.Errorf("Own(%+v) = %+v", r, got)
		}
	}
}

func TestHeld(t *testing.T) {
	r := after(2)
	for _, s := range []struct {
		c    api.Chunk
		want int
	}{
		{ordered(3, 0, 1, 0, "abc"), 3},
		{ordered(4, 0, 1, 1, "de."), 5},
		{ordered(4, 0, 1, 1, "de."), 5},
		{loose(6, 1, 0, 1, "fghi."), 9},
		{loose(7, 1, 1, 0, "jk."), 9}, // delivered
		{ordered(8, 1, 1, 0, ""), 9},  // a piece without bytes
		{ordered(1, 0, 0, 0, "lmnop."), 4},
		{loose(2, 1, 0, 0, "q"), 0},
	} {
		r = come(r, s.c)
		if got := Held(r); got != s.want {
			t.Errorf("of %s are held %d bytes, not %d", tell(r), got, s.want)
		}
	}
	if len(r.Pieces) != 1 {
		t.Errorf("%s: the piece without bytes is not there", tell(r))
	}
	if got := Held(api.Receiver{}); got != 0 {
		t.Errorf("of nothing are held %d bytes", got)
	}
}

// Example 8 of the document.
func TestPartsInTurn(t *testing.T) {
	goes(t, api.Config{Streams: 1, First: 7},
		step{ordered(8, 0, 1, 0, "eight."), "6 (8-8) [8=eight] [0]"},
		step{ordered(7, 0, 0, 0, "seven."), "8 () [] [2] 0/0=seven 0/1=eight"})
	goes(t, api.Config{Streams: 1, First: 7},
		step{ordered(8, 0, 0, 1, "lo."), "6 (8-8) [8=lo] [0]"},
		step{ordered(7, 0, 0, 0, "hel"), "8 () [] [1] 0/0=hello"})
}

// H1: a stream's messages wait for their turn, those of another one do not; and what is not ordered waits for none.
func TestTurns(t *testing.T) {
	goes(t, api.Config{Streams: 3, First: 1},
		step{ordered(1, 0, 2, 0, "c."), "1 () [1=c] [0 0 0]"},
		step{ordered(2, 0, 1, 0, "b"), "2 () [1=c 2=b] [0 0 0]"},
		step{ordered(3, 1, 0, 0, "x."), "3 () [1=c 2=b] [0 1 0] 1/0=x"},
		step{loose(4, 0, 0, 0, "u."), "4 () [1=c 2=b] [0 1 0] 1/0=x 0~0=u"},
		step{loose(5, 0, 2, 0, "v."), "5 () [1=c 2=b] [0 1 0] 1/0=x 0~0=u 0~2=v"},
		step{ordered(6, 0, 0, 0, "a."), "6 () [1=c 2=b] [1 1 0] 1/0=x 0~0=u 0~2=v 0/0=a"},
		step{ordered(7, 0, 1, 1, "bb."), "7 () [] [3 1 0] 1/0=x 0~0=u 0~2=v 0/0=a 0/1=bbb 0/2=c"},
		step{ordered(8, 2, 1, 0, "late."), "8 () [8=late] [3 1 0] 1/0=x 0~0=u 0~2=v 0/0=a 0/1=bbb 0/2=c"})
	goes(t, api.Config{Streams: 1, First: 1}, // a piece of a message that was delivered stays
		step{ordered(1, 0, 0, 0, "a."), "1 () [] [1] 0/0=a"},
		step{ordered(2, 0, 0, 0, "b."), "2 () [2=b] [1] 0/0=a"},
		step{ordered(3, 0, 1, 0, "c."), "3 () [2=b] [2] 0/0=a 0/1=c"})
}

// H1: a stream, a Mid, and whether it is ordered: where one of them is another one, so is the message.
func TestMessages(t *testing.T) {
	for name, other := range map[string]api.Chunk{
		"another stream":           loose(2, 1, 4, 1, "b."),
		"another Mid":              loose(2, 0, 5, 1, "b."),
		"a Mid of the same Tag":    loose(2, 0, 4+api.MaxTag, 1, "b."),
		"an ordered one":           ordered(2, 0, 4, 1, "b."),
		"the same part once again": loose(2, 0, 4, 0, "a"),
		"a part without the next":  loose(2, 0, 4, 2, "b."),
		"not the last one":         loose(2, 0, 4, 1, "b"),
	} {
		r := after(2, loose(1, 0, 4, 0, "a"), other)
		if len(r.Log) != 0 || len(r.Pieces) != 2 || r.Cum != 2 {
			t.Errorf("%s: %s", name, tell(r))
		}
	}
	is(t, after(2, loose(1, 0, 4, 0, "a"), loose(2, 0, 4, 1, "b.")), "2 () [] [0 0] 0~4=ab")
	is(t, after(2, loose(1, 0, 4, 1, "b"), ordered(2, 0, 4, 1, "x"), loose(3, 1, 4, 1, "y"), loose(4, 0, 4, 2, "c."), loose(5, 0, 3, 0, "z"), loose(6, 0, 4, 0, "a")),
		"6 () [2=x 3=y 5=z] [0 0] 0~4=abc")
	is(t, after(1, loose(1, 0, -3, 0, "a.")), "1 () [] [0] 0~-3=a")
	is(t, after(1, loose(1, 0, 4, 0, "a."), loose(2, 0, 4, 0, "b.")), "2 () [] [0] 0~4=a 0~4=b") // once delivered, it is not known any more
}

// H1: the Mid of a turn is its Tag: behind the greatest one comes 0; what is no Tag has no turn.
func TestTurnsGoRound(t *testing.T) {
	r := after(2, forward(1, upTo(1, 32767)), forward(2, upTo(1, 65533)))
	is(t, r, "2 () [] [0 65534]")
	for _, c := range []api.Chunk{ordered(3, 1, 0, 0, "c."), ordered(4, 1, 65535, 0, "b."), ordered(5, 1, -2, 0, "x."), ordered(6, 1, 65534, 0, "a.")} {
		r = come(r, c)
	}
	is(t, r, "6 () [5=x] [0 65537] 1/65534=a 1/65535=b 1/0=c")
	r = come(r, ordered(7, 1, 65537, 0, "y."))
	r = come(r, ordered(8, 1, 1, 0, "d."))
	is(t, r, "8 () [5=x 7=y] [0 65538] 1/65534=a 1/65535=b 1/0=c 1/1=d")
}

// H2: what is no data, of no stream, or has come already, is nothing.
func TestDataThatIsNone(t *testing.T) {
	for _, r := range []api.Receiver{after(2), after(2, ordered(1, 0, 0, 0, "a."), ordered(3, 0, 1, 0, "b."), loose(4, 1, 0, 0, "c"), loose(7, 1, 0, 2, "d."))} {
		next := r.Cum + 1
		for _, kind := range odd {
			c := ordered(next, 0, 1, 0, "x.")
			if c.Kind = kind; kind != api.ChData {
				if got := Data(r, c); !same(got, r) {
					t.Errorf("Data of %+v makes %s of %s", c, tell(got), tell(r))
				}
			}
		}
		for _, stream := range odd {
			if stream != 0 && stream != 1 {
				nothing(t, r, ordered(next, stream, 0, 0, "x."))
				nothing(t, r, loose(next, stream, 0, 0, "x."))
			}
		}
		for back := range 5 {
			nothing(t, r, loose(r.Cum-back, 0, 0, 0, "x."))
			nothing(t, r, ordered(r.Cum-back, 0, 1, 0, "x."))
		}
		for _, s := range r.Spans {
			nothing(t, r, loose(s.From, 0, 0, 0, "x."))
			nothing(t, r, ordered(s.To, 0, 1, 0, "x."))
		}
		if got := Data(r, loose(next, 0, 0, 0, "x.")); got.Cum <= r.Cum || len(got.Log) != len(r.Log)+1 {
			t.Errorf("Data of %d makes %s of %s", next, tell(got), tell(r))
		}
	}
	nothing(t, New(api.Config{First: 1}), ordered(1, 0, 0, 0, "x."))
	nothing(t, New(api.Config{Streams: -3, First: 1}), ordered(1, 0, 0, 0, "x."))
}

// H2: the number is the one Near Cum: as much as half of all tags above it is above it, one more is below.
func TestNumbersGoRound(t *testing.T) {
	const half = api.MaxTag / 2
	for _, first := range []int{1, 0, 40000, 65530, 65535, 65536, 1000000, -1, -70000} {
		r := New(api.Config{Streams: 1, First: first})
		for _, round := range []int{0, api.MaxTag, -api.MaxTag} {
			for _, above := range []int{1, 2, 3, 1000, half - 1, half} {
				got := Data(r, ordered(r.Cum+above+round, 0, 7, 0, "x."))
				if len(got.Pieces) != 1 || got.Pieces[0].Number != r.Cum+above || got.Pieces[0].Chunk.Tag != r.Cum+above+round {
					t.Errorf("%d above %d: %s", above, r.Cum, tell(got))
				}
				if above > 1 && !slices.Equal(got.Spans, []api.Span{{From: r.Cum + above, To: r.Cum + above}}) || above == 1 && got.Cum != first {
					t.Errorf("%d above %d: %s", above, r.Cum, tell(got))
				}
				got = Forward(r, forward(r.Cum+above+round))
				if got.Cum != r.Cum+above || len(got.Spans) != 0 {
					t.Errorf("Forward of %d above %d: %s", above, r.Cum, tell(got))
				}
			}
			for _, above := range []int{0, -1, -2, -1000, 1 - half, half + 1, half + 2, api.MaxTag, api.MaxTag - 1} {
				nothing(t, r, ordered(r.Cum+above+round, 0, 7, 0, "x."))
				nothing(t, r, forward(r.Cum+above+round, upTo(0, 3)))
			}
		}
	}
	goes(t, api.Config{Streams: 1, First: 65535},
		step{ordered(1, 0, 2, 0, "c."), "65534 (65537-65537) [65537=c] [0]"},
		step{ordered(0, 0, 1, 0, "b."), "65534 (65536-65537) [65537=c 65536=b] [0]"},
		step{ordered(65535, 0, 0, 0, "a."), "65537 () [] [3] 0/0=a 0/1=b 0/2=c"},
		step{ordered(65535, 0, 3, 0, "d."), "65537 () [] [3] 0/0=a 0/1=b 0/2=c"})
}

// H2: what comes above a gap waits in spans, as few as may be; when the gap is filled, Cum goes up.
func TestSpans(t *testing.T) {
	goes(t, api.Config{Streams: 1, First: 1},
		step{loose(5, 0, 5, 0, "e"), "0 (5-5) [5=e] [0]"},
		step{loose(3, 0, 3, 0, "c"), "0 (3-3 5-5) [5=e 3=c] [0]"},
		step{loose(8, 0, 8, 0, "h"), "0 (3-3 5-5 8-8) [5=e 3=c 8=h] [0]"},
		step{loose(4, 0, 4, 0, "d"), "0 (3-5 8-8) [5=e 3=c 8=h 4=d] [0]"},
		step{loose(1, 0, 1, 0, "a"), "1 (3-5 8-8) [5=e 3=c 8=h 4=d 1=a] [0]"},
		step{loose(7, 0, 7, 0, "g."), "1 (3-5 7-8) [5=e 3=c 8=h 4=d 1=a] [0] 0~7=g"},
		step{loose(2, 0, 2, 0, "b."), "5 (7-8) [5=e 3=c 8=h 4=d 1=a] [0] 0~7=g 0~2=b"},
		step{loose(6, 0, 6, 0, "f"), "8 () [5=e 3=c 8=h 4=d 1=a 6=f] [0] 0~7=g 0~2=b"})
}

// filled is a receiver of one stream that holds so many bytes, of parts from number 3 on, at most 16 bytes each, of a message whose turn is far.
func filled(n int) api.Receiver {
	r := after(1)
	for tag := 3; n > 0; tag++ {
		b := min(n, api.MaxPart)
		r = Data(r, ordered(tag, 0, 9, tag, strings.Repeat("x", b)))
		n -= b
	}
	return r
}

// H2: no more than RoomSize bytes are kept, but the next part always is.
func TestRoom(t *testing.T) {
	text := func(bytes int) string { return strings.Repeat("y", bytes) }
	for _, held := range []int{0, 1, 384, 385, 399, 400} {
		r := filled(held)
		if Held(r) != held {
			t.Fatalf("%d bytes are held, not %d", Held(r), held)
		}
		for bytes := range 18 {
			for _, c := range []api.Chunk{ordered(90, 0, 9, 90, text(bytes)), loose(2, 0, 3, 0, text(bytes))} {
				if held+bytes > 400 {
					nothing(t, r, c)
				} else if got := Data(r, c); Held(got) != held+bytes || len(got.Pieces) != len(r.Pieces)+1 {
					t.Errorf("%d bytes more than %d: %s", bytes, held, tell(got))
				}
			}
			got := Data(r, ordered(1, 0, 9, 1, text(bytes)))
			if Held(got) != held+bytes || len(got.Pieces) != len(r.Pieces)+1 || got.Cum != 1 {
				t.Errorf("%d bytes more than %d, of the next part: %s", bytes, held, tell(got))
			}
		}
	}
	nothing(t, filled(400), loose(90, 0, 3, 0, "z.")) // though it would be delivered at once
	goes(t, api.Config{Streams: 1, First: 1},
		step{loose(2, 0, 1, 0, text(401)), "0 () [] [0]"},
		step{loose(1, 0, 1, 0, "a"), "1 () [1=a] [0]"},
		step{loose(2, 0, 1, 1, text(401)+"."), "2 () [] [0] 0~1=a" + text(401)})
	full := filled(400)
	for tag := 1; tag <= 2; tag++ { // each of them is the next one
		full = Data(full, ordered(tag, 0, 9, tag, text(16)))
	}
	if Held(full) != 432 || full.Cum != 27 || len(full.Spans) != 0 {
		t.Errorf("%d bytes are held: %s", Held(full), tell(full))
	}
	nothing(t, full, ordered(29, 0, 9, 29, "z"))
	nothing(t, full, ordered(29, 0, 9, 29, "z."))
	if got := Data(full, ordered(28, 0, 0, 0, "z.")); Held(got) != 432 || len(got.Log) != 1 {
		t.Errorf("with a message delivered: %s", tell(got))
	}
}

// H2: forward, to where the sender says, and then up to the next gap.
func TestForward(t *testing.T) {
	r := after(2, ordered(2, 0, 0, 1, "b"), ordered(4, 0, 1, 0, "c"), ordered(5, 0, 2, 0, "d."), ordered(8, 0, 3, 0, "e."))
	is(t, r, "0 (2-2 4-5 8-8) [2=b 4=c 5=d 8=e] [0 0]")
	for n, want := range []string{"", "2 (4-5 8-8)", "2 (4-5 8-8)", "5 (8-8)", "5 (8-8)", "5 (8-8)", "6 (8-8)", "8 ()", "8 ()", "9 ()", "10 ()"} {
		if n > 0 {
			is(t, Forward(r, forward(n)), want+" [2=b 4=c 5=d 8=e] [0 0]")
		}
	}
	nothing(t, r, forward(0, upTo(0, 5)))
	nothing(t, r, forward(-1, upTo(0, 5)))
	for _, kind := range odd {
		if kind != api.ChForward {
			c := forward(1, upTo(0, 5))
			c.Kind = kind
			if got := Forward(r, c); !same(got, r) {
				t.Errorf("Forward of %+v makes %s of %s", c, tell(got), tell(r))
			}
		}
	}
	r = Forward(r, forward(3, upTo(0, 0)))
	is(t, r, "5 (8-8) [4=c 5=d 8=e] [1 0]")
	nothing(t, r, ordered(3, 0, 0, 2, "x."))
	nothing(t, r, forward(5, upTo(0, 5)))
}

// H2: an unordered skip is of its message alone.
func TestSkipWithout(t *testing.T) {
	l := []api.Chunk{loose(2, 0, 3, 0, "a"), loose(3, 1, 3, 0, "b"), ordered(4, 0, 3, 0, "c"), loose(5, 0, 4, 0, "d"), loose(6, 0, 3, 1, "e"), loose(7, 0, 2, 0, "f")}
	r := after(2, l...)
	is(t, Forward(r, forward(1, without(0, 3))), "7 () [3=b 4=c 5=d 7=f] [0 0]")
	is(t, Forward(r, forward(1, without(1, 3))), "7 () [2=a 4=c 5=d 6=e 7=f] [0 0]")
	is(t, Forward(r, forward(1, without(1, 3), without(0, 4), without(0, 2))), "7 () [2=a 4=c 6=e] [0 0]")
	is(t, Forward(r, forward(9, without(0, 5), without(0, -1), without(0, 3+api.MaxTag))), "9 () [2=a 3=b 4=c 5=d 6=e 7=f] [0 0]")
	is(t, Forward(after(1, loose(1, 0, 7+api.MaxTag, 0, "a")), forward(2, without(0, 7+api.MaxTag))), "2 () [] [0]")
}

// H2: an ordered skip delivers what is whole up to its message, and goes without the rest; then the stream's turns go on.
func TestSkipUpTo(t *testing.T) {
	l := []api.Chunk{ordered(2, 0, 1, 0, "b."), ordered(3, 0, 2, 0, "c"), ordered(4, 0, 3, 0, "d."), ordered(5, 0, 4, 1, "ee."), ordered(6, 0, 5, 0, "f."), ordered(7, 0, 6, 0, "g."), ordered(8, 0, 8, 0, "i.")}
	r := after(2, l...)
	is(t, r, "0 (2-8) [2=b 3=c 4=d 5=ee 6=f 7=g 8=i] [0 0]")
	for mid, want := range []string{
		"[3=c 4=d 5=ee 6=f 7=g 8=i] [2 0] 0/1=b",
		"[3=c 4=d 5=ee 6=f 7=g 8=i] [2 0] 0/1=b",
		"[5=ee 6=f 7=g 8=i] [4 0] 0/1=b 0/3=d",
		"[5=ee 6=f 7=g 8=i] [4 0] 0/1=b 0/3=d",
		"[8=i] [7 0] 0/1=b 0/3=d 0/5=f 0/6=g",
		"[8=i] [7 0] 0/1=b 0/3=d 0/5=f 0/6=g",
		"[8=i] [7 0] 0/1=b 0/3=d 0/5=f 0/6=g",
		"[] [9 0] 0/1=b 0/3=d 0/5=f 0/6=g 0/8=i",
		"[] [9 0] 0/1=b 0/3=d 0/5=f 0/6=g 0/8=i",
		"[] [10 0] 0/1=b 0/3=d 0/5=f 0/6=g 0/8=i",
	} {
		is(t, Forward(r, forward(1, upTo(0, mid))), "8 () "+want)
		is(t, Forward(r, forward(1, upTo(0, mid+api.MaxTag))), "8 () "+want)
		is(t, Forward(r, forward(1, upTo(0, mid-api.MaxTag))), "8 () "+want)
	}
	is(t, Forward(r, forward(1, upTo(0, 2), upTo(1, 6), upTo(0, 1), upTo(0, 3))), "8 () [5=ee 6=f 7=g 8=i] [4 7] 0/1=b 0/3=d")
	other := after(2, ordered(1, 1, 1, 0, "x."), loose(2, 0, 0, 0, "y"), ordered(3, 0, 1, 0, "z."), ordered(4, 1, 3, 0, "w"))
	is(t, Forward(other, forward(5, upTo(0, 2))), "5 () [1=x 2=y 4=w] [3 0] 0/1=z")
	is(t, Forward(other, forward(5, upTo(1, 2))), "5 () [2=y 3=z 4=w] [0 3] 1/1=x")
	is(t, Forward(other, forward(5, upTo(1, 4), upTo(0, 0))), "5 () [2=y] [2 5] 1/1=x 0/1=z")
	is(t, Forward(other, forward(5, without(0, 0), upTo(1, 0))), "5 () [3=z 4=w] [0 2] 1/1=x")
}

// H2: the message that is skipped to is the one Near the turn: as much as half of all tags above it; one more is below it, and nothing.
func TestSkipsGoRound(t *testing.T) {
	const half = api.MaxTag / 2
	l := []api.Chunk{ordered(2, 0, half, 0, "last."), ordered(3, 0, half+1, 0, "next."), ordered(4, 0, 5, 0, "e."), ordered(5, 0, half+3, 0, "far."), ordered(6, 0, half-1, 0, "no"), ordered(7, 0, 65535, 0, "back.")}
	r := after(1, l...)
	is(t, Forward(r, forward(1, upTo(0, half))), "7 () [5=far 7=back] [32770] 0/5=e 0/32768=last 0/32769=next")
	is(t, Forward(r, forward(1, upTo(0, half-1))), "7 () [5=far 7=back] [32770] 0/5=e 0/32768=last 0/32769=next")
	is(t, Forward(r, forward(1, upTo(0, half-2))), "7 () [2=last 3=next 5=far 6=no 7=back] [32767] 0/5=e")
	for _, mid := range []int{half + 1, half + 2, 65535, -1, 40000} {
		is(t, Forward(r, forward(1, upTo(0, mid))), "7 () [2=last 3=next 4=e 5=far 6=no 7=back] [0]")
	}
	r = Forward(r, forward(8, upTo(0, half-2), upTo(0, 65000)))
	is(t, r, "8 () [7=back] [65001] 0/5=e 0/32768=last 0/32769=next 0/32771=far")
	is(t, Forward(r, forward(9, upTo(0, 65000), upTo(0, 65001-half+1))), "9 () [7=back] [65001] 0/5=e 0/32768=last 0/32769=next 0/32771=far")
	for n, c := range []api.Chunk{ordered(9, 0, 2, 0, "two."), ordered(10, 0, 0, 0, "nought."), ordered(11, 0, 65536, 0, "none."), ordered(12, 0, -1, 0, "none."), ordered(13, 0, 1, 0, "one")} {
		r = come(r, c)
		if r.Cum != n+9 {
			t.Errorf("%d comes: %s", n+9, tell(r))
		}
	}
	is(t, Forward(r, forward(14, upTo(0, 1))), "14 () [11=none 12=none] [65539] 0/5=e 0/32768=last 0/32769=next 0/32771=far 0/65535=back 0/0=nought 0/2=two")
}

// H2: skips of streams that there are not are passed over, those behind them are not.
func TestSkipsOfNoStream(t *testing.T) {
	r := after(2, ordered(2, 1, 1, 0, "b."), loose(3, 1, 1, 0, "c"))
	for _, stream := range odd {
		if stream != 0 && stream != 1 {
			is(t, Forward(r, forward(1, upTo(stream, 7), without(stream, 1))), "3 () [2=b 3=c] [0 0]")
			is(t, Forward(r, forward(1, upTo(stream, 7), upTo(1, 0), without(stream, 1), without(1, 1))), "3 () [] [0 2] 1/1=b")
		}
	}
	is(t, Forward(New(api.Config{First: 1}), forward(5, upTo(0, 7), without(0, 1))), "5 () [] []")
}

func TestSack(t *testing.T) {
	sack := func(r api.Receiver, tag, room int, spans ...api.Span) {
		t.Helper()
		if got, want := Sack(r), (api.Chunk{Kind: api.ChSack, Tag: tag, Room: room, Spans: spans}); !alike(got, want) {
			t.Errorf("Sack of %s is %+v, not %+v", tell(r), got, want)
		}
	}
	sack(after(1), 0, 400)
	for first, tag := range map[int]int{0: 65535, 65535: 65534, 65536: 65535, 65537: 0, 131075: 2, -3: 65532, -65536: 65535} {
		r := New(api.Config{Streams: 1, First: first})
		sack(r, tag, 400)
		sack(Data(r, ordered(tag+3, 0, 1, 0, "abc.")), tag, 397, api.Span{From: 3, To: 3})
		sack(Data(r, ordered(tag+1, 0, 0, 0, "abc.")), (tag+1)%api.MaxTag, 400)
		sack(Forward(r, forward(tag+5)), (tag+5)%api.MaxTag, 400)
		sack(Data(r, ordered(tag+api.MaxTag/2, 0, 1, 0, "")), tag, 400, api.Span{From: 32768, To: 32768})
	}
	r := after(1)
	var spans []api.Span
	for i := 1; i <= 9; i++ {
		r = Data(r, ordered(4*i, 0, 9, 0, "a"))
		r = Data(r, ordered(4*i+1, 0, 9, 0, "b"))
		spans = append(spans, api.Span{From: 4 * i, To: 4*i + 1})
		sack(r, 0, 400-2*i, spans[:min(i, 6)]...)
	}
	r = Forward(r, forward(7)) // of nine spans seven are left
	sack(r, 9, 382, api.Span{From: 3, To: 4}, api.Span{From: 7, To: 8}, api.Span{From: 11, To: 12}, api.Span{From: 15, To: 16}, api.Span{From: 19, To: 20}, api.Span{From: 23, To: 24})
	for _, held := range []int{1, 16, 384, 399, 400} {
		if got := Sack(filled(held)).Room; got != 400-held {
			t.Errorf("with %d bytes there is room for %d", held, got)
		}
		for _, more := range []int{1, 16} {
			over := Data(filled(held), ordered(1, 0, 9, 0, strings.Repeat("x", more)))
			if got := Sack(over).Room; got != max(400-held-more, 0) {
				t.Errorf("with %d bytes there is room for %d", Held(over), got)
			}
		}
	}
}

// inEveryOrder hands on l in all orders that there are.
func inEveryOrder(l []api.Chunk, each func([]api.Chunk)) {
	var swap func(int)
	swap = func(at int) {
		if at == len(l) {
			each(l)
			return
		}
		for i := at; i < len(l); i++ {
			l[at], l[i] = l[i], l[at]
			swap(at + 1)
			l[at], l[i] = l[i], l[at]
		}
	}
	swap(0)
}

// Twice is once, in whatever order parts come: all is delivered, once, each stream's ordered messages in their order, and nothing is left.
func TestInWhateverOrder(t *testing.T) {
	l := []api.Chunk{
		ordered(65534, 0, 0, 0, "ab"), ordered(65535, 0, 0, 1, "c."), loose(0, 0, 0, 0, "uv"), ordered(1, 1, 0, 0, "x."),
		loose(2, 0, 0, 1, "w."), ordered(3, 0, 1, 0, "d."), ordered(4, 1, 1, 0, "y."),
	}
	in := map[string]int{}
	inEveryOrder(l, func(l []api.Chunk) {
		r := New(api.Config{Streams: 2, First: 65534})
		for i, c := range l {
			r = Data(r, c)
			nothing(t, r, c)
			nothing(t, r, l[i/2])
			if err := chunk.Wrong(Sack(r)); err != api.OK {
				t.Fatalf("the sack of %s has error %d", tell(r), err)
			}
		}
		if r.Cum != 65540 || len(r.Spans) != 0 || len(r.Pieces) != 0 || !slices.Equal(r.Turn, []int{2, 2}) || len(r.Log) != 5 {
			t.Fatalf("of %+v comes %s", l, tell(r))
		}
		_, log, _ := strings.Cut(tell(r), "[2 2] ")
		in[log]++
		for _, two := range [][2]string{{"0/0=abc", "0/1=d"}, {"1/0=x", "1/1=y"}, {"", "0~0=uvw"}} {
			if at := strings.Index(log, two[0]); at < 0 || !strings.Contains(log[at:], two[1]) {
				t.Fatalf("of %+v comes %s", l, log)
			}
		}
	})
	if len(in) != 30 { // five messages in every order, of those two times two in one order alone
		t.Errorf("%d ways: %v", len(in), in)
	}
}

// model is a receiver by a second wording of the chapter: numbers that have come, one by one, rather than spans, and turns that go one by one.
type model struct {
	r    api.Receiver
	came map[int]bool
}

func newModel(c api.Config) model {
	return model{api.Receiver{Config: c, Cum: c.First - 1, Turn: make([]int, c.Streams)}, map[int]bool{}}
}

func (m model) copied() model {
	came := map[int]bool{}
	for n := range m.came {
		came[n] = true
	}
	m.r.Pieces, m.r.Turn, m.r.Log = slices.Clone(m.r.Pieces), slices.Clone(m.r.Turn), slices.Clone(m.r.Log)
	return model{m.r, came}
}

// rest is the rest of n by all tags, from 0 on.
func rest(n int) int { return (n%65536 + 65536) % 65536 }

// highest is the highest number of tag that is at most half of all tags above n.
func highest(n, tag int) int { return n + 32768 - rest(n+32768-tag) }

// stream tells whether there is such a stream.
func (m *model) stream(n int) bool { return n >= 0 && n < m.r.Config.Streams }

// up has Cum go up, number by number, and numbers that it has passed be forgotten.
func (m *model) up(cum int) {
	for m.came[cum+1] {
		cum++
	}
	m.r.Cum = cum
	for n := range m.came {
		if n <= cum {
			delete(m.came, n)
		}
	}
	numbers := make([]int, 0, len(m.came))
	for n := range m.came {
		numbers = append(numbers, n)
	}
	slices.Sort(numbers)
	m.r.Spans = nil
	for _, n := range numbers {
		if at := len(m.r.Spans) - 1; at >= 0 && m.r.Spans[at].To == n-1 {
			m.r.Spans[at].To = n
		} else {
			m.r.Spans = append(m.r.Spans, api.Span{From: n, To: n})
		}
	}
}

// split are the pieces of a message, by their parts, and all others.
func (m *model) split(stream, mid int, ordered bool) (its, others []api.Piece) {
	for _, p := range m.r.Pieces {
		if p.Chunk.Stream == stream && p.Chunk.Mid == mid && p.Chunk.Ordered == ordered {
			its = append(its, p)
		} else {
			others = append(others, p)
		}
	}
	slices.SortStableFunc(its, func(a, b api.Piece) int {
		if a.Chunk.Part < b.Chunk.Part {
			return -1
		}
		if a.Chunk.Part > b.Chunk.Part {
			return 1
		}
		return 0
	})
	return its, others
}

// try delivers a message, if it can be.
func (m *model) try(stream, mid int, ordered bool) bool {
	its, others := m.split(stream, mid, ordered)
	var data []byte
	for i, p := range its {
		if p.Chunk.Part != i || p.Chunk.Last != (i+1 == len(its)) {
			return false
		}
		data = append(data, p.Chunk.Data...)
	}
	if len(its) > 0 {
		m.r.Pieces = others
		m.r.Log = append(m.r.Log, api.Arrival{Stream: stream, Mid: mid, Ordered: ordered, Data: data})
	}
	return len(its) > 0
}

func (m *model) data(c api.Chunk) {
	n := highest(m.r.Cum, c.Tag)
	bytes := len(c.Data)
	for _, p := range m.r.Pieces {
		bytes += len(p.Chunk.Data)
	}
	if c.Kind != 1 || !m.stream(c.Stream) || n <= m.r.Cum || m.came[n] || bytes > 400 && n != m.r.Cum+1 {
		return
	}
	m.r.Pieces = append(m.r.Pieces, api.Piece{Number: n, Chunk: c})
	m.came[n] = true
	m.up(m.r.Cum)
	if !c.Ordered {
		m.try(c.Stream, c.Mid, false)
		return
	}
	for m.try(c.Stream, rest(m.r.Turn[c.Stream]), true) {
		m.r.Turn[c.Stream]++
	}
}

func (m *model) forward(c api.Chunk) {
	n := highest(m.r.Cum, c.Tag)
	if c.Kind != 3 || n <= m.r.Cum {
		return
	}
	m.up(n)
	for _, s := range c.Skips {
		if !m.stream(s.Stream) {
			continue
		}
		if !s.Ordered {
			_, m.r.Pieces = m.split(s.Stream, s.Mid, false)
			continue
		}
		for last := highest(m.r.Turn[s.Stream], s.Mid); m.r.Turn[s.Stream] <= last; m.r.Turn[s.Stream]++ {
			if mid := rest(m.r.Turn[s.Stream]); !m.try(s.Stream, mid, true) {
				_, m.r.Pieces = m.split(s.Stream, mid, true)
			}
		}
		for m.try(s.Stream, rest(m.r.Turn[s.Stream]), true) {
			m.r.Turn[s.Stream]++
		}
	}
}

// come has c come to both, which must be the same then, and r says of it what it must.
func (m *model) come(t *testing.T, r api.Receiver, c api.Chunk) api.Receiver {
	t.Helper()
	was := tell(r)
	if c.Kind == api.ChForward {
		m.forward(c)
	} else {
		m.data(c)
	}
	r = come(r, c)
	if !same(r, m.r) {
		t.Fatalf("%s, and %+v comes: %s, not %s", was, c, tell(r), tell(m.r))
	}
	m.says(t, Sack(r))
	return r
}

// says: the sack c is that of m.
func (m *model) says(t *testing.T, c api.Chunk) {
	t.Helper()
	room := 400
	for _, p := range m.r.Pieces {
		room -= len(p.Chunk.Data)
	}
	want := api.Chunk{Kind: 2, Tag: rest(m.r.Cum), Room: max(room, 0)}
	for _, s := range m.r.Spans {
		if len(want.Spans) < 6 {
			want.Spans = append(want.Spans, api.Span{From: s.From - m.r.Cum, To: s.To - m.r.Cum})
		}
	}
	if !alike(c, want) || chunk.Wrong(c) != api.OK {
		t.Fatalf("the sack of %s is %+v, not %+v", tell(m.r), c, want)
	}
}

// Whatever comes, of some chunks, up to five of them one behind the other: it is as the second wording has it.
func TestWhateverComes(t *testing.T) {
	const first = 65535
	l := []api.Chunk{
		ordered(first, 0, 0, 0, "a"), ordered(first+1, 0, 0, 1, "b."), ordered(first+2, 0, 1, 0, "c."), ordered(first+3, 0, 2, 0, "d."),
		loose(first+1, 1, 0, 0, "e"), loose(first+2, 1, 0, 1, "f."), ordered(first+4, 1, 0, 0, "g."), loose(first+2, 0, 0, 0, "h."),
		forward(first, upTo(0, 0)), forward(first+1, without(1, 0), upTo(0, 1)), forward(first+2, upTo(0, 0), upTo(1, 1), upTo(0, 2)),
		forward(first+3, upTo(2, 0), without(0, 0)),
	}
	for i := range l {
		l[i].Tag = serial.Tag(l[i].Tag)
	}
	c := api.Config{Streams: 2, First: first}
	var more func(api.Receiver, model, int)
	more = func(r api.Receiver, m model, many int) {
		if many == 0 {
			return
		}
		for _, c := range l {
			next := m.copied()
			more(next.come(t, r, c), next, many-1)
		}
	}
	more(New(c), newModel(c), 5)
}
