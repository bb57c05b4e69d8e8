package sender

import (
	"fmt"
	"reflect"
	"slices"
	"strings"
	"testing"

	"braidline/api"
	"braidline/packet"
	"braidline/paths"
)

// plain is a config of two streams that take turns by parts of four bytes, and of two paths.
var plain = api.Config{Streams: 2, Part: 4, Packet: 50, Paths: 2, Turns: api.TurnsParts, Waiting: 4, First: 7}

// ordered is a message of stream; loose is one that waits for no other one.
func ordered(stream int, text string) api.Message {
	return api.Message{Stream: stream, Ordered: true, Data: []byte(text)}
}

func loose(stream int, text string) api.Message {
	return api.Message{Stream: stream, Data: []byte(text)}
}

// brief is m with that Life, and tried is m with those Tries.
func brief(m api.Message, life int) api.Message {
	m.Life = life
	return m
}

func tried(m api.Message, tries int) api.Message {
	m.Tries = tries
	return m
}

func sack(tag, room int, spans ...api.Span) api.Chunk {
	return api.Chunk{Kind: api.ChSack, Tag: tag, Room: room, Spans: spans}
}

// at is the span of n alone.
func at(n int) api.Span { return api.Span{From: n, To: n} }

// run is a sender that is tried step by step.
type run struct {
	t *testing.T
	s api.Sender
}

func begin(t *testing.T, c api.Config, l ...api.Message) *run {
	t.Helper()
	s, err := New(c)
	if err != api.OK {
		t.Fatalf("New(%+v) has error %d", c, err)
	}
	r := &run{t, s}
	r.send(l...)
	return r
}

func (r *run) send(l ...api.Message) {
	r.t.Helper()
	for _, m := range l {
		s, id, err := Send(r.s, m)
		if err != api.OK || id != len(r.s.Fates) {
			r.t.Fatalf("Send of %+v answers %d, and error %d", m, id, err)
		}
		r.s = s
	}
}

// pump: these packets go.
func (r *run) pump(want ...string) {
	r.t.Helper()
	s, l := Pump(r.s)
	r.s = s
	if got := packetsOf(l); !slices.Equal(got, want) {
		r.t.Errorf("%q goes, not %q", got, want)
	}
}

// hear: c is told; where it is above the part that was told last is told in Tag.
func (r *run) hear(c api.Chunk) {
	r.s = Hear(r.s, c)
}

func (r *run) ticks(n int) {
	for range n {
		r.s = Tick(r.s)
	}
}

// out: these parts are out, as partsOf tells them.
func (r *run) out(want string) {
	r.t.Helper()
	is(r.t, "out", partsOf(r.s.Out), want)
}

// path: path i is so.
func (r *run) path(i int, want api.Path) {
	r.t.Helper()
	is(r.t, fmt.Sprintf("path %d", i), r.s.Paths[i], want)
}

func (r *run) fates(want ...int) {
	r.t.Helper()
	is(r.t, "fates", fmt.Sprint(r.s.Fates), fmt.Sprint(want))
}

func is[T comparable](t *testing.T, what string, got, want T) {
	t.Helper()
	if got != want {
		t.Errorf("%s: %+v comes, not %+v", what, got, want)
	}
}

// partsOf is l in short: each part's number, its message's ID, F, A, L or G for its State, then, if they are not 0, its path and what it Missed, and Times, if that is not 1.
func partsOf(l []api.Sent) string {
	var out []string
	for _, p := range l {
		s := fmt.Sprintf("%d:%d%c", p.Number, p.ID, "?FALG"[p.State])
		if p.Path != 0 {
			s += fmt.Sprintf("/%d", p.Path)
		}
		if p.Missed != 0 {
			s += fmt.Sprintf("-%d", p.Missed)
		}
		if p.Times != 1 {
			s += fmt.Sprintf("*%d", p.Times)
		}
		out = append(out, s)
	}
	return strings.Join(out, " ")
}

// packetsOf is l in short, packet by packet: its path, and its chunks.
func packetsOf(l []api.Packet) []string {
	var out []string
	for _, p := range l {
		s := fmt.Sprintf("%d", p.Path)
		if p.Back {
			s += " back"
		}
		chunks, err := packet.Parse(p.Bytes)
		if err != api.OK {
			s += fmt.Sprintf(" error %d", err)
		}
		for _, c := range chunks {
			s += " " + chunkOf(c)
		}
		out = append(out, s)
	}
	return out
}

// chunkOf is c in short: of data its tag, stream, mid, part and text, with a full stop behind the last part's; of a forward its tag and skips. / stands in ordered ones, ~ in others.
func chunkOf(c api.Chunk) string {
	name := func(stream, mid int, ordered bool) string {
		if ordered {
			return fmt.Sprintf("%d/%d", stream, mid)
		}
		return fmt.Sprintf("%d~%d", stream, mid)
	}
	if c.Kind == api.ChForward {
		s := fmt.Sprintf(">%d", c.Tag)
		for _, k := range c.Skips {
			s += "," + name(k.Stream, k.Mid, k.Ordered)
		}
		return s
	}
	s := fmt.Sprintf("%d=%s.%d:%s", c.Tag, name(c.Stream, c.Mid, c.Ordered), c.Part, c.Data)
	if c.Last {
		s += "."
	}
	return s
}

// same holds senders, or packets, against each other; nil and a list without entries are the same.
func same(a, b any) bool { return reflect.DeepEqual(filled(a), filled(b)) }

// filled is a copy of x in which lists without entries are nil.
func filled(x any) any {
	switch x := x.(type) {
	case api.Sender:
		x = Own(x)
		for i := range x.Queue {
			x.Queue[i].Message.Data = orNil(x.Queue[i].Message.Data)
		}
		for i := range x.Out {
			c := &x.Out[i].Chunk
			c.Data, c.Spans, c.Skips = orNil(c.Data), orNil(c.Spans), orNil(c.Skips)
		}
		x.Queue, x.Out, x.Paths, x.Mids, x.Fates, x.Sched.Had = orNil(x.Queue), orNil(x.Out), orNil(x.Paths), orNil(x.Mids), orNil(x.Fates), orNil(x.Sched.Had)
		return x
	case []api.Packet:
		return orNil(x)
	}
	return x
}

func orNil[T any](l []T) []T {
	if len(l) == 0 {
		return nil
	}
	return l
}

// I1: each number of a config at its edges.
func TestWrong(t *testing.T) {
	is(t, "plain", Wrong(plain), api.OK)
	for name, f := range map[string]struct {
		of       func(*api.Config) *int
		from, to int
		err      api.Errno
	}{
		"Streams": {func(c *api.Config) *int { return &c.Streams }, 1, 4, api.ErrRange},
		"Paths":   {func(c *api.Config) *int { return &c.Paths }, 1, 2, api.ErrRange},
		"Part":    {func(c *api.Config) *int { return &c.Part }, 1, 16, api.ErrRange},
		"Packet":  {func(c *api.Config) *int { return &c.Packet }, 40, 120, api.ErrRange},
		"Waiting": {func(c *api.Config) *int { return &c.Waiting }, 1, 12, api.ErrRange},
		"First":   {func(c *api.Config) *int { return &c.First }, 0, 65535, api.ErrRange},
		"Turns":   {func(c *api.Config) *int { return &c.Turns }, 1, 5, api.ErrKind},
	} {
		for _, n := range append([]int{f.from - 1, f.from, f.from + 1, f.to - 1, f.to, f.to + 1, f.from - 100, f.to + 100}, odd...) {
			c := plain
			*f.of(&c) = n
			want := api.OK
			if n < f.from || n > f.to {
				want = f.err
			}
			is(t, fmt.Sprint(name, " ", n), Wrong(c), want)
			// No such Turns are told behind all else.
			c.Turns = 6
			if want != api.ErrRange && name != "Turns" {
				want = api.ErrKind
			}
			if name != "Turns" {
				is(t, fmt.Sprint(name, " ", n, " and Turns 6"), Wrong(c), want)
			}
		}
	}
	is(t, "nothing", Wrong(api.Config{}), api.ErrRange)
}

// I1: what is New; Z4: beside an error nothing is.
func TestNew(t *testing.T) {
	p := api.Path{Window: 8, Slow: 128, Wait: 3}
	s, err := New(plain)
	want := api.Sender{Config: plain, Sched: api.Sched{Last: 1, Hand: -1, Had: []int{0, 0}}, Paths: []api.Path{p, p},
		Cum: 6, Next: 7, Room: 400, Mids: []int{0, 0, 0, 0}, Recover: 6}
	if err != api.OK || !same(s, want) {
		t.Errorf("New answers %+v, and error %d", s, err)
	}
	for streams := 1; streams <= api.MaxStreams; streams++ {
		for n := 1; n <= api.MaxPaths; n++ {
			c := api.Config{Streams: streams, Part: 16, Packet: 40, Paths: n, Turns: 1, Waiting: 12}
			s, err := New(c)
			if err != api.OK || s.Config != c || len(s.Paths) != n || len(s.Mids) != 2*streams || len(s.Sched.Had) != streams || s.Sched.Last != streams-1 {
				t.Errorf("New(%+v) answers %+v, and error %d", c, s, err)
			}
			is(t, "Cum, Next and Recover", [3]int{s.Cum, s.Next, s.Recover}, [3]int{-1, 0, -1})
			for _, p := range s.Paths {
				is(t, "a new path", p, paths.New(16))
			}
		}
	}
	for _, c := range []api.Config{{}, {Streams: 2, Part: 4, Packet: 50, Paths: 2, Turns: 6, Waiting: 4}, {Streams: 5, Part: 4, Packet: 50, Paths: 2, Turns: 1, Waiting: 4}} {
		s, err := New(c)
		if err != Wrong(c) || err == api.OK || !same(s, api.Sender{}) {
			t.Errorf("New(%+v) answers %+v, and error %d", c, s, err)
		}
	}
}

// full is a sender with something in every field, as no call makes it.
func full() api.Sender {
	return api.Sender{Config: api.Config{Streams: 1, Part: 2, Packet: 3, Paths: 4, Turns: 5, Waiting: 6, First: 7}, Clock: 8,
		Queue: []api.Queued{{ID: 9, Mid: 10, Came: 11, Sent: 12, Parts: 13, Message: api.Message{Stream: 14, Ordered: true, Life: 15, Tries: 16, Data: []byte("abc")}}, {ID: 17}},
		Sched: api.Sched{Last: 18, Hand: 19, Had: []int{20, 21}},
		Out: []api.Sent{{Number: 22, ID: 23, State: 24, Path: 25, Missed: 26, Times: 27, Came: 28, Life: 29, Tries: 30,
			Chunk: api.Chunk{Kind: 31, Tag: 32, Stream: 33, Mid: 34, Part: 35, Last: true, Ordered: true, Data: []byte("de"),
				Spans: []api.Span{{From: 36, To: 37}}, Room: 38, Skips: []api.Skip{{Stream: 39, Mid: 40, Ordered: true}}}}, {Number: 41}},
		Paths: []api.Path{{Window: 42, Slow: 43, Partial: 44, Flight: 45, Errors: 46, Alarm: 47, Wait: 48}, {Window: 49}},
		Cum:   50, Next: 51, Room: 52, Mids: []int{53, 54}, Fates: []int{55, 56}, Forward: true, Recover: 57}
}

func TestOwn(t *testing.T) {
	for _, s := range []api.Sender{{}, full()} {
		if got := Own(s); !reflect.DeepEqual(got, s) {
			t.Errorf("Own(%+v) = %+v", s, got)
		}
	}
}

// I1: messages come last in the queue, numbered by how many there were.
func TestSend(t *testing.T) {
	r := begin(t, plain)
	r.send(brief(ordered(1, "abcde"), 1000))
	r.ticks(3)
	r.send(tried(loose(0, "f"), 1000))
	r.send(ordered(0, strings.Repeat("x", 60)))
	want, _ := New(plain)
	want.Clock = 3
	want.Queue = []api.Queued{
		{ID: 0, Mid: -1, Message: api.Message{Stream: 1, Ordered: true, Life: 1000, Data: []byte("abcde")}},
		{ID: 1, Mid: -1, Came: 3, Message: api.Message{Tries: 1000, Data: []byte("f")}},
		{ID: 2, Mid: -1, Came: 3, Message: api.Message{Ordered: true, Data: []byte(strings.Repeat("x", 60))}},
	}
	want.Fates = []int{1, 1, 1}
	if !same(r.s, want) {
		t.Errorf("Send makes %+v", r.s)
	}
	// Numbers go on when messages have left the queue.
	r.pump("0 7=0~0.0:f. 8=1/0.0:abcd 9=0/0.0:xxxx")
	r.send(ordered(0, "y"))
	is(t, "the fourth one", r.s.Queue[2].ID, 3)
	r.fates(1, 1, 1, 1)
}

// I1: what is refused, and in which order; Z4: beside an error nothing is answered.
func TestSendRefuses(t *testing.T) {
	s := begin(t, plain, ordered(0, "a"), ordered(0, "b"), ordered(0, "c")).s
	filledUp := begin(t, plain, ordered(0, "a"), ordered(0, "b"), ordered(0, "c"), ordered(0, "d")).s
	long := strings.Repeat("x", 61)
	for _, c := range []struct {
		m    api.Message
		want api.Errno
	}{
		{ordered(0, "a"), api.OK}, {ordered(1, "a"), api.OK}, {loose(1, "a"), api.OK}, {loose(0, long[1:]), api.OK},
		{ordered(-1, "a"), api.ErrRange}, {ordered(2, "a"), api.ErrRange}, {loose(2, "a"), api.ErrRange},
		{brief(ordered(0, "a"), 1000), api.OK}, {brief(ordered(0, "a"), 1001), api.ErrRange}, {brief(ordered(0, "a"), -1), api.ErrRange},
		{tried(ordered(0, "a"), 1000), api.OK}, {tried(ordered(0, "a"), 1001), api.ErrRange}, {tried(ordered(0, "a"), -1), api.ErrRange},
		{loose(0, ""), api.ErrMuch}, {loose(0, long), api.ErrMuch}, {ordered(1, long+long), api.ErrMuch},
		{ordered(2, ""), api.ErrRange}, {brief(ordered(1, long), 1001), api.ErrRange}, {tried(ordered(1, ""), -1), api.ErrRange},
	} {
		got, id, err := Send(s, c.m)
		is(t, fmt.Sprintf("Send of %+v", c.m), err, c.want)
		if err != api.OK && (!same(got, api.Sender{}) || id != 0) {
			t.Errorf("beside error %d is answered %+v and %d", err, got, id)
		}
		if err == api.OK && id != 3 {
			t.Errorf("the fourth message has number %d", id)
		}
		// All else is told ahead of that no more may wait.
		want := c.want
		if want == api.OK {
			want = api.ErrFull
		}
		got, id, err = Send(filledUp, c.m)
		if err != want || !same(got, api.Sender{}) || id != 0 {
			t.Errorf("Send of %+v, when four wait, answers %+v, %d, and error %d", c.m, got, id, err)
		}
	}
	for n := 1; n <= api.MaxWaiting; n++ {
		c := plain
		c.Waiting = n
		r := begin(t, c)
		for range n {
			r.send(loose(0, "abc"))
		}
		if _, _, err := Send(r.s, loose(0, "abc")); err != api.ErrFull {
			t.Errorf("when %d wait, Send has error %d", n, err)
		}
		r.s, _ = Pump(r.s)
		r.send(loose(0, "abc")) // the first ones have left the queue
	}
}

// I1: a sender is calm when nothing waits, and nothing is out.
func TestCalm(t *testing.T) {
	r := begin(t, plain)
	is(t, "a new one is calm", Calm(r.s), true)
	r.send(loose(0, "abc"))
	is(t, "with a message in the queue", Calm(r.s), false)
	r.pump("0 7=0~0.0:abc.")
	is(t, "with a part out", Calm(r.s), false)
	r.hear(sack(7, 400))
	is(t, "when it has come", Calm(r.s), true)
	r.send(brief(loose(0, "abc"), 1))
	r.ticks(1)
	r.pump()
	is(t, "when it is gone", Calm(r.s), true)
}

// Example 9 of the document.
func TestTwoPartsInOnePacket(t *testing.T) {
	c := plain
	c.Streams, c.Paths = 1, 1
	r := begin(t, c, ordered(0, "hello"))
	r.pump("0 7=0/0.0:hell 8=0/0.1:o.")
	want := api.Sender{Config: c, Sched: api.Sched{Last: 0, Hand: -1, Had: []int{5}},
		Out: []api.Sent{
			{Number: 7, State: api.InFlight, Times: 1, Chunk: api.Chunk{Kind: 1, Tag: 7, Ordered: true, Data: []byte("hell")}},
			{Number: 8, State: api.InFlight, Times: 1, Chunk: api.Chunk{Kind: 1, Tag: 8, Part: 1, Last: true, Ordered: true, Data: []byte("o")}}},
		Paths: []api.Path{{Window: 8, Slow: 128, Flight: 5, Alarm: 3, Wait: 3}}, Cum: 6, Next: 9, Room: 400, Mids: []int{1, 0}, Fates: []int{1}, Recover: 6}
	if !same(r.s, want) {
		t.Errorf("Pump makes %+v", r.s)
	}
	r.pump() // nothing more is to go
	if !same(r.s, want) {
		t.Errorf("Pump makes, once more, %+v", r.s)
	}
}

// I3: a path's packets are as long as may be.
func TestPackets(t *testing.T) {
	c := api.Config{Streams: 1, Part: 16, Packet: 75, Paths: 1, Turns: 1, Waiting: 12}
	text := "0123456789abcdef"
	for most, want := range map[int][]string{
		75: {"0 0=0/0.0:" + text + " 1=0/0.1:" + text + " 2=0/0.2:" + text, "0 3=0/0.3:" + text[4:] + "."},
		74: {"0 0=0/0.0:" + text + " 1=0/0.1:" + text, "0 2=0/0.2:" + text + " 3=0/0.3:" + text[4:] + "."},
		96: {"0 0=0/0.0:" + text + " 1=0/0.1:" + text + " 2=0/0.2:" + text + " 3=0/0.3:" + text[4:] + "."},
		95: {"0 0=0/0.0:" + text + " 1=0/0.1:" + text + " 2=0/0.2:" + text, "0 3=0/0.3:" + text[4:] + "."},
		40: {"0 0=0/0.0:" + text, "0 1=0/0.1:" + text, "0 2=0/0.2:" + text, "0 3=0/0.3:" + text[4:] + "."},
	} {
		c.Packet = most
		r := begin(t, c, ordered(0, text+text+text+text[4:]))
		r.s.Paths[0].Window = 64 // as if much had come
		r.pump(want...)
	}
}

// I3: parts go as long as the path is open, which is as long as fewer bytes are on it than may be.
func TestWindow(t *testing.T) {
	c := plain
	c.Turns, c.Part = api.TurnsFirst, 4
	r := begin(t, c, ordered(0, "a"), ordered(0, "bcde"), ordered(0, "fghi"), ordered(0, "jk"))
	r.pump("0 7=0/0.0:a. 8=0/1.0:bcde. 9=0/2.0:fghi.") // five are fewer than eight: four more go
	r.path(0, api.Path{Window: 8, Slow: 128, Flight: 9, Alarm: 3, Wait: 3})
	r.hear(sack(7, 400))
	r.path(0, api.Path{Window: 9, Slow: 128, Flight: 8, Wait: 3})
	r.pump("0 10=0/3.0:jk.")
	r.path(0, api.Path{Window: 9, Slow: 128, Flight: 10, Alarm: 3, Wait: 3})
	r.path(1, api.Path{Window: 8, Slow: 128, Wait: 3})
	r.send(ordered(0, "l"))
	r.hear(sack(7, 400, at(3)))
	r.path(0, api.Path{Window: 9, Slow: 128, Flight: 8, Alarm: 3, Wait: 3}) // Cum has not moved
	r.out("8:1F-1 9:2F-1 10:3A")
	r.fates(2, 1, 1, 2, 1)
	r.pump("0 11=0/4.0:l.")
	r.send(ordered(0, "m"))
	r.pump() // just as many are on it as may be
	r.path(0, api.Path{Window: 9, Slow: 128, Flight: 9, Alarm: 3, Wait: 3})
}

// I3: no more goes than the other side has room for, but for one part, if nothing is on the way.
func TestRoom(t *testing.T) {
	c := plain
	c.Turns = api.TurnsFirst
	for room, want := range map[int][]string{
		-5: {"0 8=0/1.0:bcde."}, 0: {"0 8=0/1.0:bcde."}, 3: {"0 8=0/1.0:bcde."}, 4: {"0 8=0/1.0:bcde."}, 6: {"0 8=0/1.0:bcde."},
		7: {"0 8=0/1.0:bcde. 9=0/2.0:fgh."}, 8: {"0 8=0/1.0:bcde. 9=0/2.0:fgh. 10=0/3.0:i."}, 400: {"0 8=0/1.0:bcde. 9=0/2.0:fgh. 10=0/3.0:i. 11=0/4.0:j."},
	} {
		r := begin(t, c, ordered(0, "a"))
		r.pump("0 7=0/0.0:a.")
		r.hear(sack(7, room))
		r.send(ordered(0, "bcde"), ordered(0, "fgh"), ordered(0, "i"), ordered(0, "j"))
		r.pump(want...)
		is(t, "room", r.s.Room, room)
	}
	// What is on another path is on the way, too; and who has their turn is waited for.
	r := begin(t, c, ordered(0, "a"))
	r.s.Paths[1].Flight = 3
	r.s.Out = []api.Sent{{Number: 7, State: api.InFlight, Path: 1, Times: 1, Chunk: api.Chunk{Kind: 1, Tag: 7, Data: []byte("xyz")}}}
	r.s.Next, r.s.Room, r.s.Queue[0].ID = 8, 3, 1
	r.s.Fates = []int{1, 1}
	r.pump()
	r.s.Room = 4
	r.pump("0 8=0/0.0:a.")
	r = begin(t, c, ordered(0, "a"), ordered(0, "bcde"), ordered(1, "f"))
	r.s.Room = 4
	r.pump("0 7=0/0.0:a.") // f would fit, but it is not its turn
	// What is Lost goes again, whatever room there is.
	r = begin(t, c, ordered(0, "abcdefgh"))
	r.pump("0 7=0/0.0:abcd 8=0/0.1:efgh.")
	r.hear(sack(6, 0))
	r.ticks(3)
	r.out("7:0L 8:0L")
	r.pump("0 7=0/0.0:abcd")
	r.hear(sack(7, 0))
	r.pump("0 8=0/0.1:efgh.")
}

// I3: no more than MaxOut parts are out.
func TestMostOut(t *testing.T) {
	c := api.Config{Streams: 1, Part: 1, Packet: 120, Paths: 1, Turns: 1, Waiting: 2}
	r := begin(t, c, ordered(0, strings.Repeat("a", 58)), ordered(0, "bcdef"))
	for i := range 100 {
		r.s, _ = Pump(r.s)
		if n := len(r.s.Out); n > 60 {
			t.Fatalf("%d are out", n)
		} else if n == 60 {
			is(t, "sacks until sixty are out", i, 58)
			break
		}
		r.hear(sack(65535, 400, api.Span{From: 2, To: r.s.Next}))
	}
	is(t, "the last one of all", r.s.Next, 60)
	is(t, "what is left of the second message", r.s.Queue[0].Sent, 2)
	r.hear(sack(65535, 400, api.Span{From: 2, To: 60}))
	is(t, "flight", r.s.Paths[0].Flight <= 1, true)
	r.s, _ = Pump(r.s)
	is(t, "the last one of all", r.s.Next, 60)
	r.hear(sack(0, 400, api.Span{From: 2, To: 59}))
	is(t, "how many are out when the first has come", len(r.s.Out), 59)
	r.s, _ = Pump(r.s)
	is(t, "how many are out then", len(r.s.Out), 60)
	is(t, "the last one of all", r.s.Next, 61)
}

// I2 and I3: a part more may be one more than MaxOut are; nothing new goes until there are fewer.
func TestMoreThanMostOut(t *testing.T) {
	c := api.Config{Streams: 1, Part: 1, Packet: 120, Paths: 1, Turns: 1, Waiting: 3}
	r := begin(t, c, ordered(0, strings.Repeat("a", 58)), brief(ordered(0, "bcdef"), 1), ordered(0, "gh"))
	for n := 0; len(r.s.Out) < 60 && n < 100; n++ {
		r.s, _ = Pump(r.s)
		r.hear(sack(65535, 400, api.Span{From: 2, To: r.s.Next}))
	}
	is(t, "what is left of the second message", r.s.Queue[0].Sent, 2)
	r.ticks(1)
	r.pump()
	r.fates(1, 3, 1)
	is(t, "how many are out with the part more", len(r.s.Out), 61)
	is(t, "whether the path is open", paths.Open(r.s.Paths[0]), true)
	r.hear(sack(0, 400, api.Span{From: 2, To: 59}))
	r.pump("0 >60,0/1")
	is(t, "how many are out when the first has come", len(r.s.Out), 60)
	r.hear(sack(1, 400))
	r.pump("0 >60,0/1 61=0/2.0:g")
	is(t, "how many are out then", len(r.s.Out), 60)
}

// I3: messages are numbered by streams, ordered ones and others each for themselves, when their first part is handed on; tags go round.
func TestMids(t *testing.T) {
	c := api.Config{Streams: 2, Part: 2, Packet: 120, Paths: 1, Turns: api.TurnsRank, Waiting: 12, First: 65533}
	r := begin(t, c, loose(1, "abc"), ordered(1, "d"), loose(0, "e"), ordered(0, "f"), ordered(0, "gh"), loose(0, "ij"), loose(1, "k"))
	r.s.Paths[0].Window = 100
	r.s.Mids = []int{65535, 3, 65536, 70000}
	r.pump("0 65533=0~0.0:e. 65534=0/65535.0:f. 65535=0/0.0:gh. 0=0~1.0:ij. 1=1~4464.0:ab 2=1~4464.1:c. 3=1/3.0:d. 4=1~4465.0:k.")
	is(t, "mids", fmt.Sprint(r.s.Mids), "[65537 4 65538 70002]")
	is(t, "next and cum", [2]int{r.s.Next, r.s.Cum}, [2]int{65541, 65532})
	r = begin(t, c, loose(0, "abcdefgh"), ordered(0, "i"))
	r.pump("0 65533=0~0.0:ab 65534=0~0.1:cd")
	if q := r.s.Queue; len(q) != 2 || q[0].Mid != 0 || q[0].Sent != 4 || q[0].Parts != 2 || q[1].Mid != -1 {
		t.Errorf("in the queue are %+v", q)
	}
	r.hear(sack(65533, 400))
	r.pump("0 65535=0~0.2:ef 0=0~0.3:gh.")
	is(t, "mids", fmt.Sprint(r.s.Mids), "[0 0 1 0]")
	r.hear(sack(0, 400))
	r.pump("0 1=0/0.0:i.")
	is(t, "mids", fmt.Sprint(r.s.Mids), "[1 0 1 0]")
}

// I3: streams take turns as the config has it.
func TestTurns(t *testing.T) {
	c := api.Config{Streams: 2, Part: 2, Packet: 120, Paths: 1, Turns: 1, Waiting: 12, First: 1}
	for turns, want := range map[int]string{
		api.TurnsFirst: "0 1=1/0.0:ab 2=1/0.1:cd 3=1/0.2:e. 4=0/0.0:fg 5=0/0.1:hi 6=0/0.2:j. 7=1/1.0:kl.",
		api.TurnsRound: "0 1=0/0.0:fg 2=0/0.1:hi 3=0/0.2:j. 4=1/0.0:ab 5=1/0.1:cd 6=1/0.2:e. 7=1/1.0:kl.",
		api.TurnsParts: "0 1=0/0.0:fg 2=1/0.0:ab 3=0/0.1:hi 4=1/0.1:cd 5=0/0.2:j. 6=1/0.2:e. 7=1/1.0:kl.",
		api.TurnsRank:  "0 1=0/0.0:fg 2=0/0.1:hi 3=0/0.2:j. 4=1/0.0:ab 5=1/0.1:cd 6=1/0.2:e. 7=1/1.0:kl.",
		api.TurnsFair:  "0 1=0/0.0:fg 2=1/0.0:ab 3=0/0.1:hi 4=1/0.1:cd 5=0/0.2:j. 6=1/0.2:e. 7=1/1.0:kl.",
	} {
		c.Turns = turns
		r := begin(t, c, ordered(1, "abcde"), ordered(0, "fghij"), ordered(1, "kl"))
		r.s.Paths[0].Window = 100
		r.pump(want)
		is(t, "had", fmt.Sprint(r.s.Sched), "{1 -1 [5 7]}")
	}
	r := begin(t, c, ordered(1, "abcde"), ordered(0, "f"))
	r.s.Config.Turns, r.s.Paths[0].Window = api.TurnsRound, 3
	r.pump("0 1=0/0.0:f. 2=1/0.0:ab")
	is(t, "sched", fmt.Sprint(r.s.Sched), "{1 0 [1 2]}")
}
