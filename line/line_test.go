package line

import (
	"fmt"
	"reflect"
	"slices"
	"strings"
	"testing"

	"braidline/api"
	"braidline/packet"
	"braidline/receive"
	"braidline/sender"
)

// plain is a config of two streams that take turns by parts of four bytes, and of two paths.
var plain = api.Config{Streams: 2, Part: 4, Packet: 40, Paths: 2, Turns: api.TurnsParts, Waiting: 4, First: 7}

// ordered is a message of stream; loose is one that waits for no other one.
func ordered(stream int, text string) api.Message {
	return api.Message{Stream: stream, Ordered: true, Data: []byte(text)}
}

func loose(stream int, text string) api.Message {
	return api.Message{Stream: stream, Data: []byte(text)}
}

// brief is m with that Life.
func brief(m api.Message, life int) api.Message {
	m.Life = life
	return m
}

func sending(m api.Message) api.Step { return api.Step{Kind: api.StepSend, Message: m} }
func going(n int) api.Step           { return api.Step{Kind: api.StepGo, N: n} }
func dropping(n int) api.Step        { return api.Step{Kind: api.StepDrop, N: n} }
func doubling(n int) api.Step        { return api.Step{Kind: api.StepTwice, N: n} }

var clock = api.Step{Kind: api.StepClock}

func sack(tag, room int, spans ...api.Span) api.Chunk {
	return api.Chunk{Kind: api.ChSack, Tag: tag, Room: room, Spans: spans}
}

// part is the last part, of number 0, of an ordered message of stream 0.
func part(tag, mid int, text string) api.Chunk {
	return api.Chunk{Kind: api.ChData, Tag: tag, Mid: mid, Last: true, Ordered: true, Data: []byte(text)}
}

func forward(tag int, skips ...api.Skip) api.Chunk {
	return api.Chunk{Kind: api.ChForward, Tag: tag, Skips: skips}
}

// run is a line that is tried step by step.
type run struct {
	t *testing.T
	l api.Line
}

func begin(t *testing.T, c api.Config) *run {
	t.Helper()
	l, err := New(c)
	if err != api.OK {
		t.Fatalf("New(%+v) has error %d", c, err)
	}
	return &run{t, l}
}

// do: all these steps are done.
func (r *run) do(l ...api.Step) *run {
	r.t.Helper()
	for _, x := range l {
		taken := len(r.l.Sender.Fates)
		y, a := Do(r.l, x)
		if x.Kind != api.StepSend {
			taken = 0
		}
		if a != (api.Answer{N: taken}) {
			r.t.Fatalf("%+v is answered by %+v", x, a)
		}
		r.l = y
	}
	return r
}

// refuse: x is not done, and nothing is changed.
func (r *run) refuse(x api.Step, err api.Errno) {
	r.t.Helper()
	y, a := Do(r.l, x)
	if a != (api.Answer{Err: err}) || !same(y, r.l) {
		r.t.Errorf("%+v is answered by %+v, not by error %d, and makes of %+v: %+v", x, a, err, r.l, y)
	}
}

// lay has a packet of these chunks be last on the way.
func (r *run) lay(path int, back bool, chunks ...api.Chunk) *run {
	r.t.Helper()
	b, err := packet.Bytes(chunks, 1000)
	if err != api.OK {
		r.t.Fatalf("%+v have error %d", chunks, err)
	}
	r.l.Way = append(r.l.Way, api.Packet{Path: path, Back: back, Bytes: b})
	return r
}

// way: these packets are on the way.
func (r *run) way(want ...string) {
	r.t.Helper()
	if got := packetsOf(r.l.Way); !slices.Equal(got, want) {
		r.t.Errorf("%q is on the way, not %q", got, want)
	}
}

// log: these messages were delivered.
func (r *run) log(want ...string) {
	r.t.Helper()
	if got := logOf(r.l.Receiver); !slices.Equal(got, want) {
		r.t.Errorf("%q was delivered, not %q", got, want)
	}
}

func (r *run) fates(want ...int) {
	r.t.Helper()
	if got := r.l.Sender.Fates; !slices.Equal(got, want) {
		r.t.Errorf("fates are %v, not %v", got, want)
	}
}

// packetsOf is l in short, packet by packet: its path, whether it goes > or < back, and its chunks.
func packetsOf(l []api.Packet) []string {
	var out []string
	for _, p := range l {
		s := fmt.Sprintf("%d>", p.Path)
		if p.Back {
			s = fmt.Sprintf("%d<", p.Path)
		}
		chunks, err := packet.Parse(p.Bytes)
		if err != api.OK {
			s += fmt.Sprintf(" error %d", err)
		}
		for _, c := range chunks {
			s += " " + chunkOf(c)
		}
		out = append(out, s)
	}
	return out
}

// chunkOf is c in short: of data its tag, stream, mid, part and text, with a full stop behind the last part's; of a sack its tag, room and spans; of a forward its tag and skips. / stands in ordered ones, ~ in others.
func chunkOf(c api.Chunk) string {
	switch c.Kind {
	case api.ChSack:
		s := fmt.Sprintf("%d+%d", c.Tag, c.Room)
		for _, x := range c.Spans {
			s += fmt.Sprintf(",%d-%d", x.From, x.To)
		}
		return s
	case api.ChForward:
		s := fmt.Sprintf("%d!", c.Tag)
		for _, x := range c.Skips {
			s += "," + nameOf(x.Stream, x.Mid, x.Ordered)
		}
		return s
	}
	s := fmt.Sprintf("%d=%s.%d:%s", c.Tag, nameOf(c.Stream, c.Mid, c.Ordered), c.Part, c.Data)
	if c.Last {
		s += "."
	}
	return s
}

func nameOf(stream, mid int, ordered bool) string {
	if ordered {
		return fmt.Sprintf("%d/%d", stream, mid)
	}
	return fmt.Sprintf("%d~%d", stream, mid)
}

func logOf(r api.Receiver) []string {
	var out []string
	for _, a := range r.Log {
		out = append(out, fmt.Sprintf("%s=%s", nameOf(a.Stream, a.Mid, a.Ordered), a.Data))
	}
	return out
}

// same holds values against each other; nil and a list without entries are the same.
func same(a, b any) bool {
	// Mostly they are the same as they stand, which is told much sooner.
	return reflect.DeepEqual(a, b) || reflect.DeepEqual(deep(reflect.ValueOf(a), orNil).Interface(), deep(reflect.ValueOf(b), orNil).Interface())
}

// deep is a copy of v, which shares no list with it: each list is what list makes of the copies of its entries.
func deep(v reflect.Value, list func(reflect.Value) reflect.Value) reflect.Value {
	out := reflect.New(v.Type()).Elem()
	out.Set(v)
	switch v.Kind() {
	case reflect.Struct:
		for i := range v.NumField() {
			out.Field(i).Set(deep(v.Field(i), list))
		}
	case reflect.Slice:
		out.Set(reflect.MakeSlice(v.Type(), v.Len(), v.Len()))
		for i := range v.Len() {
			out.Index(i).Set(deep(v.Index(i), list))
		}
		out.Set(list(out))
	}
	return out
}

func orNil(l reflect.Value) reflect.Value {
	if l.Len() == 0 {
		return reflect.Zero(l.Type())
	}
	return l
}

// J1: a New sender, a New receiver, and nothing on the way.
func TestNew(t *testing.T) {
	for _, c := range []api.Config{
		plain, {Streams: 1, Part: 1, Packet: 40, Paths: 1, Turns: 1, Waiting: 1}, {Streams: 4, Part: 16, Packet: 120, Paths: 2, Turns: 5, Waiting: 12, First: 65535},
	} {
		s, _ := sender.New(c)
		want := api.Line{Sender: s, Receiver: receive.New(c)}
		if got, err := New(c); err != api.OK || !same(got, want) {
			t.Errorf("New(%+v) answers %+v, and error %d", c, got, err)
		}
	}
	p := api.Path{Window: 8, Slow: 128, Wait: 3}
	want := api.Line{
		Sender: api.Sender{Config: plain, Sched: api.Sched{Last: 1, Hand: -1, Had: []int{0, 0}}, Paths: []api.Path{p, p},
			Cum: 6, Next: 7, Room: 400, Mids: []int{0, 0, 0, 0}, Recover: 6},
		Receiver: api.Receiver{Config: plain, Cum: 6, Turn: []int{0, 0}},
	}
	if got, _ := New(plain); !same(got, want) {
		t.Errorf("New answers %+v", got)
	}
}

// J1: New has Wrong's error, and Play has New's; Z4: beside it there is no line.
func TestWrongConfigs(t *testing.T) {
	for name, x := range map[string]struct {
		change func(*api.Config)
		err    api.Errno
	}{
		"nothing":    {func(c *api.Config) { *c = api.Config{} }, api.ErrRange},
		"Streams 0":  {func(c *api.Config) { c.Streams = 0 }, api.ErrRange},
		"Streams 5":  {func(c *api.Config) { c.Streams = 5 }, api.ErrRange},
		"Paths 3":    {func(c *api.Config) { c.Paths = 3 }, api.ErrRange},
		"Part 17":    {func(c *api.Config) { c.Part = 17 }, api.ErrRange},
		"Packet 39":  {func(c *api.Config) { c.Packet = 39 }, api.ErrRange},
		"Packet 121": {func(c *api.Config) { c.Packet = 121 }, api.ErrRange},
		"Waiting 13": {func(c *api.Config) { c.Waiting = 13 }, api.ErrRange},
		"First -1":   {func(c *api.Config) { c.First = -1 }, api.ErrRange},
		"Turns 0":    {func(c *api.Config) { c.Turns = 0 }, api.ErrKind},
		"Turns 6":    {func(c *api.Config) { c.Turns = 6 }, api.ErrKind},
		"two errors": {func(c *api.Config) { c.Turns, c.First = 6, 65536 }, api.ErrRange},
	} {
		c := plain
		x.change(&c)
		if l, err := New(c); err != x.err || !same(l, api.Line{}) {
			t.Errorf("%s: New answers %+v, and error %d", name, l, err)
		}
		for _, steps := range [][]api.Step{nil, {clock}, make([]api.Step, 201)} {
			if l, answers, err := Play(c, steps); err != x.err || len(answers) != 0 || !same(l, api.Line{}) {
				t.Errorf("%s: Play of %d steps answers %+v, %+v, and error %d", name, len(steps), l, answers, err)
			}
		}
	}
}

func TestOwn(t *testing.T) {
	full := api.Line{
		Sender: api.Sender{Config: api.Config{Streams: 1, Part: 2, Packet: 3, Paths: 4, Turns: 5, Waiting: 6, First: 7}, Clock: 8,
			Queue: []api.Queued{{ID: 9, Message: api.Message{Data: []byte("abc")}}}, Sched: api.Sched{Last: 10, Had: []int{11}},
			Out: []api.Sent{{Number: 12, Chunk: api.Chunk{Data: []byte("de")}}}, Paths: []api.Path{{Window: 13}},
			Cum: 14, Next: 15, Room: 16, Mids: []int{17}, Fates: []int{18}, Forward: true, Recover: 19},
		Receiver: api.Receiver{Config: api.Config{Streams: 20}, Cum: 21, Spans: []api.Span{{From: 22, To: 23}},
			Pieces: []api.Piece{{Number: 24, Chunk: api.Chunk{Data: []byte("fg")}}}, Turn: []int{25}, Log: []api.Arrival{{Stream: 26, Data: []byte("h")}}},
		Way: []api.Packet{{Path: 27, Back: true, Bytes: []byte("ij")}, {Path: 28}},
	}
	for _, l := range []api.Line{{}, full, begin(t, plain).do(sending(ordered(0, "hello"))).l} {
		if got := Own(l); !same(got, l) {
			t.Errorf("Own(%+v) = %+v", l, got)
		}
	}
}

// The document's examples 9 and 10: two parts, in one packet; it goes, it is told of, it is delivered.
func TestHello(t *testing.T) {
	r := begin(t, plain).do(sending(ordered(0, "hello")))
	r.way("0> 7=0/0.0:hell 8=0/0.1:o.")
	r.log()
	r.fates(api.Waits)
	r.do(going(0))
	r.way("0< 8+400")
	r.log("0/0=hello")
	r.fates(api.Waits)
	r.do(going(0))
	r.way()
	r.log("0/0=hello")
	r.fates(api.Delivered)
	if !sender.Calm(r.l.Sender) || r.l.Sender.Cum != 8 || r.l.Receiver.Cum != 8 {
		t.Errorf("the line is %+v", r.l)
	}
}

// The document's example 11: a packet that was lost goes again.
func TestLost(t *testing.T) {
	r := begin(t, plain).do(sending(ordered(0, "hello")), dropping(0))
	r.way()
	r.do(clock, clock)
	r.way()
	r.do(clock)
	r.way("0> 7=0/0.0:hell")
	r.do(going(0))
	r.way("0< 7+396")
	r.do(going(0))
	r.way("0> 8=0/0.1:o.")
	r.log()
	r.do(going(0))
	r.log("0/0=hello")
	r.way("0< 8+400")
	r.do(going(0))
	r.fates(api.Delivered)
}

// J1: what is told of in vain goes again, too, and is delivered once.
func TestSackIsLost(t *testing.T) {
	r := begin(t, plain).do(sending(loose(1, "ab")), going(0), dropping(0), clock, clock, clock)
	r.way("0> 7=1~0.0:ab.")
	r.fates(api.Waits)
	r.do(going(0))
	r.log("1~0=ab")
	r.way("0< 7+400")
	r.do(going(0))
	r.fates(api.Delivered)
}

// J1: packets come in whatever order, and those that come twice are told of twice.
func TestOrder(t *testing.T) {
	c := plain
	c.Part = 16
	r := begin(t, c).do(sending(ordered(0, "abcdefghijklmnop")), sending(ordered(0, "qr")), sending(loose(0, "st")))
	// Of a Window of 32 bytes so much is on the path.
	r.way("0> 7=0/0.0:abcdefghijklmnop.", "0> 8=0/1.0:qr.", "0> 9=0~0.0:st.")
	r.do(doubling(1))
	r.way("0> 7=0/0.0:abcdefghijklmnop.", "0> 8=0/1.0:qr.", "0> 9=0~0.0:st.", "0> 8=0/1.0:qr.")
	r.do(going(2))
	r.log("0~0=st")
	r.way("0> 7=0/0.0:abcdefghijklmnop.", "0> 8=0/1.0:qr.", "0> 8=0/1.0:qr.", "0< 6+400,3-3")
	r.do(going(1), going(1))
	r.way("0> 7=0/0.0:abcdefghijklmnop.", "0< 6+400,3-3", "0< 6+398,2-3", "0< 6+398,2-3")
	r.do(going(0))
	r.log("0~0=st", "0/0=abcdefghijklmnop", "0/1=qr")
	r.way("0< 6+400,3-3", "0< 6+398,2-3", "0< 6+398,2-3", "0< 9+400")
	r.do(going(3))
	r.fates(api.Delivered, api.Delivered, api.Delivered)
	r.do(going(0), going(0), going(0))
	r.way()
}

// J1: StepSend has the message's number, or Send's error.
func TestSend(t *testing.T) {
	r := begin(t, plain)
	// A path takes eight bytes; what is behind waits.
	r.do(sending(ordered(0, "abcdefgh")))
	for n := 1; n <= 4; n++ {
		y, a := Do(r.l, sending(loose(1, "x")))
		if a != (api.Answer{N: n}) || len(y.Sender.Queue) != n {
			t.Errorf("message %d is answered by %+v", n, a)
		}
		r.l = y
	}
	long := strings.Repeat("x", 61)
	r.refuse(sending(loose(0, "x")), api.ErrFull)
	r.refuse(sending(loose(0, "")), api.ErrMuch)
	r.refuse(sending(loose(0, long)), api.ErrMuch)
	r.refuse(sending(loose(2, "")), api.ErrRange)
	r.refuse(sending(loose(-1, "x")), api.ErrRange)
	r.refuse(sending(brief(loose(0, "x"), 1001)), api.ErrRange)
	r.refuse(sending(brief(loose(0, "x"), -1)), api.ErrRange)
	r.refuse(sending(api.Message{Tries: 1001, Data: []byte("x")}), api.ErrRange)
	// What was refused has no number.
	begin(t, plain).do(sending(ordered(0, "a")), sending(ordered(1, "b"))).fates(api.Waits, api.Waits)
	fresh := begin(t, plain)
	fresh.refuse(sending(loose(0, "")), api.ErrMuch)
	fresh.do(sending(brief(loose(0, long[1:]), 1000)))
}

// J1: there is no packet N.
func TestNoPacket(t *testing.T) {
	r := begin(t, plain)
	for on := range 3 {
		for _, step := range []func(int) api.Step{going, dropping, doubling} {
			for _, n := range append([]int{on, on + 1, api.MaxPackets - 1, api.MaxPackets, -1, -2}, slices.DeleteFunc(slices.Clone(odd), func(n int) bool { return 0 <= n && n < on })...) {
				r.refuse(step(n), api.ErrNone)
			}
			for n := range on {
				if _, a := Do(r.l, step(n)); a != (api.Answer{}) {
					t.Errorf("%+v of %d packets is answered by %+v", step(n), on, a)
				}
			}
		}
		r.lay(0, on == 1, sack(6, 400))
	}
}

// J1: there is no such kind.
func TestNoKind(t *testing.T) {
	r := begin(t, plain).do(sending(ordered(0, "hello")))
	for _, kind := range append([]int{0, 6, 7, -1, -5, 256 + 1}, odd...) {
		if kind < api.StepSend || kind > api.StepClock {
			r.refuse(api.Step{Kind: kind, Message: loose(0, "x")}, api.ErrKind)
			r.refuse(api.Step{Kind: kind, N: 7, Message: loose(7, "")}, api.ErrKind)
		}
	}
}

// J1: the packet that a step names goes, of StepTwice none does; what is put comes last.
func TestWhichPacket(t *testing.T) {
	for n := range 3 {
		r := begin(t, plain).lay(0, true, sack(1, 1)).lay(1, true, sack(2, 2)).lay(0, true, sack(3, 3))
		all := []string{"0< 1+1", "1< 2+2", "0< 3+3"}
		less := slices.Delete(slices.Clone(all), n, n+1)
		for name, x := range map[string]struct {
			step api.Step
			want []string
		}{"go": {going(n), less}, "drop": {dropping(n), less}, "twice": {doubling(n), append(slices.Clone(all), all[n])}} {
			t.Run(fmt.Sprint(name, n), func(t *testing.T) { (&run{t, r.l}).do(x.step).way(x.want...) })
		}
	}
}

// J1: of StepDrop nothing comes, either way.
func TestDrop(t *testing.T) {
	r := begin(t, plain).lay(0, false, part(7, 0, "a")).do(dropping(0))
	r.way()
	r.log()
	r = begin(t, plain).do(sending(ordered(0, "hello")), going(0), dropping(0))
	r.way()
	r.fates(api.Waits)
}

// J1: what comes to the receiver, packet by packet.
func TestComes(t *testing.T) {
	two := part(8, 1, "bc")
	strange := part(7, 0, "a")
	strange.Stream = 3
	for name, x := range map[string]struct {
		path   int
		chunks []api.Chunk
		way    string
		log    string
		room   int // that the sender knows of
	}{
		"data":                     {0, []api.Chunk{part(7, 0, "a")}, "0< 7+400", "0/0=a", 400},
		"data on path 1":           {1, []api.Chunk{part(7, 0, "a")}, "1< 7+400", "0/0=a", 400},
		"data with a gap":          {1, []api.Chunk{two}, "1< 6+398,2-2", "", 400},
		"two data, one sack":       {0, []api.Chunk{part(7, 0, "a"), two}, "0< 8+400", "0/0=a 0/1=bc", 400},
		"two data, the other way":  {0, []api.Chunk{two, part(7, 0, "a")}, "0< 8+400", "0/0=a 0/1=bc", 400},
		"data twice":               {0, []api.Chunk{part(7, 0, "a"), part(7, 0, "a")}, "0< 7+400", "0/0=a", 400},
		"data that is known":       {0, []api.Chunk{part(6, 0, "a")}, "0< 6+400", "", 400},
		"data of no stream":        {0, []api.Chunk{strange}, "0< 6+400", "", 400},
		"a forward":                {1, []api.Chunk{forward(9)}, "1< 9+400", "", 400},
		"a forward that is known":  {0, []api.Chunk{forward(6)}, "0< 6+400", "", 400},
		"a forward, then data":     {0, []api.Chunk{forward(7), part(7, 0, "a")}, "0< 7+400", "", 400},
		"data, then a forward":     {0, []api.Chunk{part(7, 0, "a"), forward(7)}, "0< 7+400", "0/0=a", 400},
		"a forward with a skip":    {0, []api.Chunk{forward(7, api.Skip{Mid: 0, Ordered: true}), two}, "0< 8+400", "0/1=bc", 400},
		"a sack is not for it":     {0, []api.Chunk{sack(6, 5)}, "", "", 400},
		"two sacks":                {0, []api.Chunk{sack(6, 5), sack(6, 7)}, "", "", 400},
		"data, then a sack":        {0, []api.Chunk{part(7, 0, "a"), sack(6, 5)}, "0< 7+400", "0/0=a", 400},
		"a sack, then data":        {0, []api.Chunk{sack(6, 5), part(7, 0, "a")}, "0< 7+400", "0/0=a", 400},
		"a forward, then a sack":   {0, []api.Chunk{forward(7), sack(6, 5)}, "0< 7+400", "", 400},
		"data, a sack, data again": {1, []api.Chunk{part(7, 0, "a"), sack(6, 5), two}, "1< 8+400", "0/0=a 0/1=bc", 400},
	} {
		t.Run(name, func(t *testing.T) {
			r := begin(t, plain).lay(x.path, false, x.chunks...).do(going(0))
			if got := strings.Join(packetsOf(r.l.Way), " "); got != x.way {
				t.Errorf("%q is on the way, not %q", got, x.way)
			}
			if got := strings.Join(logOf(r.l.Receiver), " "); got != x.log {
				t.Errorf("%q was delivered, not %q", got, x.log)
			}
			if r.l.Sender.Room != x.room {
				t.Errorf("the sender knows of room %d", r.l.Sender.Room)
			}
		})
	}
}

// J1: a sack of as many spans as there may be is put whole.
func TestLongestSack(t *testing.T) {
	r := begin(t, plain)
	for n := 9; n <= 21; n += 2 {
		r.lay(0, false, part(n, n, "a"))
	}
	for range 7 {
		r.do(going(0))
	}
	r.way("0< 6+399,3-3", "0< 6+398,3-3,5-5", "0< 6+397,3-3,5-5,7-7", "0< 6+396,3-3,5-5,7-7,9-9", "0< 6+395,3-3,5-5,7-7,9-9,11-11",
		"0< 6+394,3-3,5-5,7-7,9-9,11-11,13-13", "0< 6+393,3-3,5-5,7-7,9-9,11-11,13-13")
	if n := len(r.l.Way[6].Bytes); n != 30 {
		t.Errorf("the longest sack has %d bytes", n)
	}
}

// J1: what goes Back is heard by the sender, all of it, and nothing is told of that.
func TestComesBack(t *testing.T) {
	for name, x := range map[string]struct {
		chunks    []api.Chunk
		room, cum int
	}{
		"a sack":                   {[]api.Chunk{sack(7, 5)}, 5, 7},
		"two sacks":                {[]api.Chunk{sack(7, 5), sack(8, 6)}, 6, 8},
		"two sacks, the other way": {[]api.Chunk{sack(8, 6), sack(7, 5)}, 6, 8},
		"data":                     {[]api.Chunk{part(7, 0, "a")}, 400, 6},
		"a forward":                {[]api.Chunk{forward(9)}, 400, 6},
		"data, then a sack":        {[]api.Chunk{part(7, 0, "a"), sack(7, 5)}, 5, 7},
		"a sack, then a forward":   {[]api.Chunk{sack(7, 5), forward(9)}, 5, 7},
		"a sack of what is not":    {[]api.Chunk{sack(9, 5)}, 400, 6},
	} {
		t.Run(name, func(t *testing.T) {
			r := begin(t, plain).do(sending(ordered(0, "hello")), dropping(0))
			r.lay(1, true, x.chunks...).do(going(0))
			r.way()
			if r.l.Sender.Room != x.room || r.l.Sender.Cum != x.cum {
				t.Errorf("the sender has room %d and cum %d", r.l.Sender.Room, r.l.Sender.Cum)
			}
			if was := receive.New(plain); !same(r.l.Receiver, was) {
				t.Errorf("the receiver is %+v", r.l.Receiver)
			}
		})
	}
}

// J1: nothing comes of a packet that Parse has an error with, not even what is right in it; but it goes.
func TestCannotBeRead(t *testing.T) {
	data, _ := packet.Bytes([]api.Chunk{part(7, 0, "a")}, 100)
	told, _ := packet.Bytes([]api.Chunk{sack(7, 5)}, 100)
	for _, good := range [][]byte{data, told} {
		for _, b := range [][]byte{nil, {}, {1}, {9, 0}, good[:len(good)-1], append(slices.Clone(good), 0), append(slices.Clone(good), 9, 0), append([]byte{9, 0}, good...)} {
			for _, back := range []bool{false, true} {
				r := begin(t, plain).do(sending(ordered(0, "hello")))
				want := r.l
				r.l.Way = append([]api.Packet{{Path: 1, Back: back, Bytes: b}}, r.l.Way...)
				if r.do(going(0)); !same(r.l, want) {
					t.Errorf("%v makes %+v, not %+v", b, r.l, want)
				}
			}
		}
	}
}

// J1: with each step that is not refused the sender Pumps, and its packets are put, last of all.
func TestPumps(t *testing.T) {
	for name, x := range map[string]struct {
		step api.Step
		want []string
	}{
		"send":    {sending(loose(1, "cd")), []string{"0> 7=0/0.0:a.", "0< 6+400", "0> 7=0/0.0:ab. 8=1~0.0:cd."}},
		"go":      {going(0), []string{"0< 6+400", "0< 7+400", "0> 7=0/0.0:ab."}},
		"go back": {going(1), []string{"0> 7=0/0.0:a.", "0> 7=0/0.0:ab."}},
		"drop":    {dropping(0), []string{"0< 6+400", "0> 7=0/0.0:ab."}},
		"twice":   {doubling(1), []string{"0> 7=0/0.0:a.", "0< 6+400", "0< 6+400", "0> 7=0/0.0:ab."}},
		"clock":   {clock, []string{"0> 7=0/0.0:a.", "0< 6+400", "0> 7=0/0.0:ab."}},
		"nothing": {api.Step{}, []string{"0> 7=0/0.0:a.", "0< 6+400"}},
		"none":    {going(2), []string{"0> 7=0/0.0:a.", "0< 6+400"}},
		"refused": {sending(loose(2, "cd")), []string{"0> 7=0/0.0:a.", "0< 6+400"}},
	} {
		t.Run(name, func(t *testing.T) {
			r := begin(t, plain).lay(0, false, part(7, 0, "a")).lay(0, true, sack(6, 400))
			// No step ahead of this one has pumped what waits.
			r.l.Sender, _, _ = sender.Send(r.l.Sender, ordered(0, "ab"))
			r.l, _ = Do(r.l, x.step)
			r.way(x.want...)
		})
	}
}

// crowd has n packets more be on the way, of which nothing can be read.
func (r *run) crowd(n int) *run {
	for range n {
		r.l.Way = append(r.l.Way, api.Packet{Path: 1, Bytes: []byte{9}})
	}
	return r
}

// ends: so many packets are on the way, and these are the last ones.
func (r *run) ends(many int, want ...string) {
	r.t.Helper()
	got := packetsOf(r.l.Way)
	if len(got) != many || !slices.Equal(got[max(0, len(got)-len(want)):], want) {
		r.t.Errorf("%d packets are on the way: %q", len(got), got)
	}
}

// J1: what is put is lost, if there are MaxPackets.
func TestFullWay(t *testing.T) {
	c := plain
	c.Part = 16
	// Two packets go with this one, for no chunk more fits in the first.
	three := sending(ordered(0, "abcdefghijklmnopqrstuvwxyz"))
	first, second := "0> 7=0/0.0:abcdefghijklmnop", "0> 8=0/0.1:qrstuvwxyz."
	begin(t, c).crowd(38).do(three).ends(40, first, second)
	begin(t, c).crowd(39).do(three).ends(40, first)
	full := begin(t, c).crowd(40).do(three)
	full.ends(40, "1> error 8")
	// They are lost, not kept back: they are out, as others are.
	if out := full.l.Sender.Out; len(out) != 2 || out[0].State != api.InFlight || full.l.Sender.Paths[0].Flight != 26 {
		t.Errorf("%+v is out", out)
	}
	full.do(clock, clock).ends(40, "1> error 8")
	full.do(dropping(0)).ends(39, "1> error 8")
	full.do(clock).ends(40, first)

	begin(t, c).crowd(38).lay(0, true, sack(6, 400)).do(doubling(38)).ends(40, "0< 6+400", "0< 6+400")
	begin(t, c).crowd(39).lay(0, true, sack(6, 400)).do(doubling(39)).ends(40, "1> error 8", "0< 6+400")
	begin(t, c).lay(0, true, sack(6, 400)).crowd(39).do(doubling(0)).ends(40, "1> error 8")
	// A packet goes ahead of its sack, and that is put ahead of what the sender has.
	r := begin(t, c).lay(0, false, part(7, 0, "a")).crowd(39)
	r.l.Sender, _, _ = sender.Send(r.l.Sender, ordered(0, "ab"))
	r.do(going(0)).ends(40, "1> error 8", "0< 7+400")
	r = begin(t, c).lay(0, false, part(7, 0, "a")).crowd(38)
	r.l.Sender, _, _ = sender.Send(r.l.Sender, ordered(0, "ab"))
	r.do(going(0)).ends(40, "0< 7+400", "0> 7=0/0.0:ab.")
}

// J1: as many as may be are put by StepTwice, and none more, without an error.
func TestTwiceUpToTheBound(t *testing.T) {
	r := begin(t, plain).do(sending(ordered(0, "hello")))
	for n := 2; n <= 45; n++ {
		r.do(doubling(min(n, 40)-2)).ends(min(n, 40), "0> 7=0/0.0:hell 8=0/0.1:o.")
	}
	for range 40 {
		r.do(going(0))
	}
	// It came forty times, and is there once.
	r.log("0/0=hello")
	r.ends(40, "0< 8+400")
	for range 40 {
		r.do(going(0))
	}
	r.way()
	r.fates(api.Delivered)
}

// J1: StepClock is Tick: a message is gone when its Life is over, and the receiver is told so.
func TestClock(t *testing.T) {
	r := begin(t, plain).do(sending(brief(ordered(0, "abc"), 2)), dropping(0), sending(ordered(0, "def")), dropping(0), clock)
	r.fates(api.Waits, api.Waits)
	r.way()
	r.do(clock)
	r.fates(api.Gone, api.Waits)
	r.way("0> 7!,0/0")
	if r.l.Sender.Clock != 2 {
		t.Errorf("the clock is at %d", r.l.Sender.Clock)
	}
	r.do(going(0))
	r.way("0< 7+400")
	r.do(going(0), clock)
	r.way("0> 8=0/1.0:def.")
	r.do(going(0))
	r.log("0/1=def")
	r.do(going(0))
	r.fates(api.Gone, api.Delivered)
}

// J1: numbers go round on both sides.
func TestGoesRound(t *testing.T) {
	c := plain
	c.First = 65535
	r := begin(t, c).do(sending(ordered(0, "hello")))
	r.way("0> 65535=0/0.0:hell 0=0/0.1:o.")
	r.do(going(0))
	r.way("0< 0+400")
	r.log("0/0=hello")
	r.do(going(0), sending(ordered(0, "you")))
	r.way("0> 1=0/1.0:you.")
	r.do(going(0), going(0))
	r.fates(api.Delivered, api.Delivered)
	if r.l.Sender.Cum != 65537 || r.l.Receiver.Cum != 65537 {
		t.Errorf("the line is %+v", r.l)
	}
}

// J1: step by step, whatever is refused among them, and their answers.
func TestPlay(t *testing.T) {
	l, answers, err := Play(plain, []api.Step{
		going(0), sending(ordered(0, "hello")), {Kind: 9}, sending(loose(5, "x")), going(0), clock, dropping(3), sending(loose(1, "you")), doubling(1), sending(loose(1, "")),
	})
	want := []api.Answer{{Err: api.ErrNone}, {N: 0}, {Err: api.ErrKind}, {Err: api.ErrRange}, {}, {}, {Err: api.ErrNone}, {N: 1}, {}, {Err: api.ErrMuch}}
	if err != api.OK || !slices.Equal(answers, want) {
		t.Errorf("the answers are %+v, and error %d", answers, err)
	}
	r := &run{t, l}
	r.way("0< 8+400", "0> 9=1~0.0:you.", "0> 9=1~0.0:you.")
	r.log("0/0=hello")
	r.fates(api.Waits, api.Waits)
	if l.Sender.Clock != 1 {
		t.Errorf("the clock is at %d", l.Sender.Clock)
	}
}

// J1: no more than MaxSteps; Z4: beside the error nothing is answered.
func TestPlayMany(t *testing.T) {
	fresh, _ := New(plain)
	for _, n := range []int{0, 1, 2, 199, 200, 201, 202, 1000} {
		l, answers, err := Play(plain, slices.Repeat([]api.Step{clock}, n))
		if n > 200 {
			if err != api.ErrMany || len(answers) != 0 || !same(l, api.Line{}) {
				t.Errorf("%d steps are answered by %+v, %+v, and error %d", n, l, answers, err)
			}
			continue
		}
		want := Own(fresh)
		want.Sender.Clock = n
		if err != api.OK || !slices.Equal(answers, make([]api.Answer, n)) || !same(l, want) {
			t.Errorf("%d steps are answered by %+v, %+v, and error %d", n, l, answers, err)
		}
	}
	// What is refused is a step, too.
	if _, answers, err := Play(plain, make([]api.Step, 200)); err != api.OK || !slices.Equal(answers, slices.Repeat([]api.Answer{{Err: api.ErrKind}}, 200)) {
		t.Errorf("steps of no kind are answered by %+v, and error %d", answers, err)
	}
}
