package fair

import (
	"fmt"
	"reflect"
	"slices"
	"testing"

	"braidline/api"
	"braidline/line"
	"braidline/packet"
	"braidline/sender"
)

// plain is a config of two streams that take turns by parts of four bytes, and of one path.
var plain = api.Config{Streams: 2, Part: 4, Packet: 40, Paths: 1, Turns: api.TurnsParts, Waiting: 4, First: 7}

// ordered is a message of stream; loose is one that waits for no other one.
func ordered(stream int, text string) api.Message {
	return api.Message{Stream: stream, Ordered: true, Data: []byte(text)}
}

func loose(stream int, text string) api.Message {
	return api.Message{Stream: stream, Data: []byte(text)}
}

// brief is m with that Life.
func brief(m api.Message, life int) api.Message {
	m.Life = life
	return m
}

func sending(m api.Message) api.Step { return api.Step{Kind: api.StepSend, Message: m} }
func going(n int) api.Step           { return api.Step{Kind: api.StepGo, N: n} }
func dropping(n int) api.Step        { return api.Step{Kind: api.StepDrop, N: n} }
func doubling(n int) api.Step        { return api.Step{Kind: api.StepTwice, N: n} }

var clock = api.Step{Kind: api.StepClock}

// run is a line that is tried round by round.
type run struct {
	t *testing.T
	l api.Line
}

// begin is a new line on which these steps were done.
func begin(t *testing.T, c api.Config, l ...api.Step) *run {
	t.Helper()
	x, err := line.New(c)
	if err != api.OK {
		t.Fatalf("New(%+v) has error %d", c, err)
	}
	return (&run{t, x}).do(l...)
}

// do: all these steps are done.
func (r *run) do(l ...api.Step) *run {
	r.t.Helper()
	for _, x := range l {
		y, a := line.Do(r.l, x)
		if a.Err != api.OK {
			r.t.Fatalf("%+v is answered by %+v", x, a)
		}
		r.l = y
	}
	return r
}

// round has one more round go by: then the clock is at, these messages were delivered, and these packets are on the way.
func (r *run) round(at int, log []string, way ...string) *run {
	r.t.Helper()
	r.l = Round(r.l)
	if r.l.Sender.Clock != at {
		r.t.Errorf("the clock is at %d, not at %d", r.l.Sender.Clock, at)
	}
	if got := logOf(r.l.Receiver); !slices.Equal(got, log) {
		r.t.Errorf("at %d %q was delivered, not %q", at, got, log)
	}
	if got := packetsOf(r.l.Way); !slices.Equal(got, way) {
		r.t.Errorf("at %d %q is on the way, not %q", at, got, way)
	}
	return r
}

// settle: it takes that many rounds; then these messages were delivered, and fates are these.
func (r *run) settle(rounds int, log []string, fates ...int) {
	r.t.Helper()
	was := r.l.Sender.Clock
	l, n := Settle(r.l)
	if n != rounds || l.Sender.Clock != was+rounds {
		r.t.Errorf("%d rounds have the clock at %d, not %d at %d", n, l.Sender.Clock, rounds, was+rounds)
	}
	if got := logOf(l.Receiver); !slices.Equal(got, log) {
		r.t.Errorf("%q was delivered, not %q", got, log)
	}
	if got := l.Sender.Fates; !slices.Equal(got, fates) {
		r.t.Errorf("fates are %v, not %v", got, fates)
	}
	r.l = l
}

// packetsOf is l in short, packet by packet: its path, whether it goes > or < back, and its chunks.
func packetsOf(l []api.Packet) []string {
	var out []string
	for _, p := range l {
		s := fmt.Sprintf("%d>", p.Path)
		if p.Back {
			s = fmt.Sprintf("%d<", p.Path)
		}
		chunks, err := packet.Parse(p.Bytes)
		if err != api.OK {
			s += fmt.Sprintf(" error %d", err)
		}
		for _, c := range chunks {
			s += " " + chunkOf(c)
		}
		out = append(out, s)
	}
	return out
}

// chunkOf is c in short: of data its tag and text, of a sack its tag, room and spans, of a forward its tag.
func chunkOf(c api.Chunk) string {
	switch c.Kind {
	case api.ChSack:
		s := fmt.Sprintf("%d+%d", c.Tag, c.Room)
		for _, x := range c.Spans {
			s += fmt.Sprintf(",%d-%d", x.From, x.To)
		}
		return s
	case api.ChForward:
		return fmt.Sprintf("%d!", c.Tag)
	}
	return fmt.Sprintf("%d=%s", c.Tag, c.Data)
}

// logOf is what was delivered: / stands in ordered messages, ~ in others.
func logOf(r api.Receiver) []string {
	var out []string
	for _, a := range r.Log {
		mark := "~"
		if a.Ordered {
			mark = "/"
		}
		out = append(out, fmt.Sprintf("%d%s%d=%s", a.Stream, mark, a.Mid, a.Data))
	}
	return out
}

// same holds values against each other; nil and a list without entries are the same.
func same(a, b any) bool {
	// Mostly they are the same as they stand, which is told much sooner.
	return reflect.DeepEqual(a, b) || reflect.DeepEqual(deep(reflect.ValueOf(a), orNil).Interface(), deep(reflect.ValueOf(b), orNil).Interface())
}

// deep is a copy of v, which shares no list with it: each list is what list makes of the copies of its entries.
func deep(v reflect.Value, list func(reflect.Value) reflect.Value) reflect.Value {
	out := reflect.New(v.Type()).Elem()
	out.Set(v)
	switch v.Kind() {
	case reflect.Struct:
		for i := range v.NumField() {
			out.Field(i).Set(deep(v.Field(i), list))
		}
	case reflect.Slice:
		out.Set(reflect.MakeSlice(v.Type(), v.Len(), v.Len()))
		for i := range v.Len() {
			out.Index(i).Set(deep(v.Index(i), list))
		}
		out.Set(list(out))
	}
	return out
}

func orNil(l reflect.Value) reflect.Value {
	if l.Len() == 0 {
		return reflect.Zero(l.Type())
	}
	return l
}

// Example 9 and 10 of the document, in rounds: it goes, it is told of, it is delivered.
func TestHello(t *testing.T) {
	hello := []string{"0/0=hello"}
	c := plain
	c.Packet = 50
	r := begin(t, c, sending(ordered(0, "hello")))
	r.round(1, hello, "0< 8+400") // the sack, put in this round, comes in the next one
	if r.l.Sender.Fates[0] != api.Waits {
		t.Errorf("what was not told of has fate %d", r.l.Sender.Fates[0])
	}
	r.round(2, hello)
	if r.l.Sender.Fates[0] != api.Delivered {
		t.Errorf("what was told of has fate %d", r.l.Sender.Fates[0])
	}
	r.settle(0, hello, api.Delivered)
	begin(t, c, sending(ordered(0, "hello"))).settle(2, hello, api.Delivered)
	begin(t, c, sending(ordered(0, "hello")), going(0)).settle(1, hello, api.Delivered)
}

// K1: without a packet a round is the clock alone.
func TestRoundOfNothing(t *testing.T) {
	r := begin(t, plain)
	r.round(1, nil).round(2, nil)
	want := begin(t, plain, clock, clock).l
	if !same(r.l, want) {
		t.Errorf("two rounds make %+v, not %+v", r.l, want)
	}
}

// K1: packets come in their order, those that are there as the round begins, once each; what comes in goes, behind those.
func TestRoundIsInOrder(t *testing.T) {
	c := plain
	c.Part, c.Paths = 16, 2
	r := begin(t, c, sending(loose(0, "first")), sending(loose(1, "second")), sending(loose(0, "third")))
	three := []string{"0~0=first", "1~0=second", "0~1=third"}
	r.round(1, three, "0< 7+400", "0< 8+400", "0< 9+400").round(2, three)

	r = begin(t, c, sending(loose(0, "first")), sending(loose(1, "second")), sending(loose(0, "third")), doubling(0), dropping(0))
	turned := []string{"1~0=second", "0~1=third", "0~0=first"}
	r.round(1, turned, "0< 6+400,2-2", "0< 6+400,2-3", "0< 9+400")
}

// K1: parts that go again, or for the first time, because of what comes, go in a later round.
func TestWhatARoundBringsAbout(t *testing.T) {
	all := []string{"0/0=abcdefghijklmnop"}
	r := begin(t, plain, sending(ordered(0, "abcdefghijklmnop")))
	if got := packetsOf(r.l.Way); !slices.Equal(got, []string{"0> 7=abcd 8=efgh"}) {
		t.Fatalf("%q is on the way", got)
	}
	r.round(1, nil, "0< 8+392").round(2, nil, "0> 9=ijkl 10=mnop").round(3, all, "0< 10+400").round(4, all)
}

// K1: the clock goes on behind what comes: what is told of at last is not late.
func TestClockIsLast(t *testing.T) {
	text := []string{"0/0=abcd"}
	r := begin(t, plain, sending(ordered(0, "abcd")), going(0), clock, clock)
	if at := r.l.Sender.Paths[0].Alarm; at != 3 {
		t.Fatalf("the alarm is at %d", at)
	}
	r.round(3, text)
	if p := r.l.Sender.Paths[0]; p.Errors != 0 || p.Alarm != 0 {
		t.Errorf("the path is %+v", p)
	}

	// Likewise what comes in its last turn of the clock has come, though its message is gone then, for it was not told of.
	r = begin(t, plain, sending(brief(ordered(0, "abcd"), 1)))
	r.round(1, text, "0< 7+400", "0> 7!").round(2, text, "0< 7+400").round(3, text)
	if got := r.l.Sender.Fates; !slices.Equal(got, []int{api.Gone}) {
		t.Errorf("fates are %v", got)
	}
}

// K1: there are no rounds, if the sender is Calm, and nothing is on the way.
func TestSettledAlready(t *testing.T) {
	begin(t, plain).settle(0, nil)
	begin(t, plain, clock, clock).settle(0, nil)
	l := begin(t, plain, sending(ordered(0, "abcd")), going(0), going(0)).l
	got, n := Settle(l)
	if n != 0 || !same(got, l) {
		t.Errorf("%d rounds make of %+v: %+v", n, l, got)
	}
}

// K1: a sender that is Calm is not enough: what is on the way comes.
func TestSettleEmptiesTheWay(t *testing.T) {
	text := []string{"0/0=abcd"}
	r := begin(t, plain, sending(ordered(0, "abcd")), doubling(0), going(0), going(1))
	if !sender.Calm(r.l.Sender) || len(r.l.Way) != 1 {
		t.Fatalf("%+v is a line that was meant to be calm", r.l)
	}
	r.settle(2, text, api.Delivered) // the packet comes once more, and is told of
	if len(r.l.Way) != 0 {
		t.Errorf("%q is on the way", packetsOf(r.l.Way))
	}

	r = begin(t, plain, sending(ordered(0, "abcd")), going(0), doubling(0), going(0))
	r.settle(1, text, api.Delivered)
}

// K1: nothing on the way is not enough: what was lost goes again, when its path has waited long enough.
func TestSettleWaits(t *testing.T) {
	r := begin(t, plain, sending(ordered(0, "abcd")), dropping(0))
	if len(r.l.Way) != 0 {
		t.Fatalf("%q is on the way", packetsOf(r.l.Way))
	}
	r.settle(5, []string{"0/0=abcd"}, api.Delivered)

	// What nobody is told of goes again as well, and comes twice.
	r = begin(t, plain, sending(ordered(0, "abcd")), going(0), dropping(0))
	r.settle(5, []string{"0/0=abcd"}, api.Delivered)
}

// K1: messages that are gone are told of, too, until nothing is out.
func TestSettleWithoutWhatIsGone(t *testing.T) {
	r := begin(t, plain, sending(brief(ordered(0, "abcdefghijkl"), 2)), sending(ordered(0, "mn")), dropping(0), clock, clock)
	// At 3 the alarm goes that was set at 0: mn goes again in that round, and comes in the next one, when nothing is out any more.
	r.settle(3, []string{"0/1=mn"}, api.Gone, api.Delivered)
	if got := r.l.Receiver.Turn[0]; got != 2 {
		t.Errorf("it is message %d's turn", got)
	}
}

// closed is a line whose path lets nothing go: until its message has waited life turns of the clock its sender is not Calm.
func closed(t *testing.T, life int) *run {
	r := begin(t, plain)
	r.l.Sender.Paths[0].Window = 0
	return r.do(sending(brief(ordered(0, "abcd"), life)))
}

// K1: 400 rounds at most.
func TestSettleEnds(t *testing.T) {
	for _, x := range []struct{ life, rounds, fate int }{
		{1, 1, api.Gone}, {399, 399, api.Gone}, {400, 400, api.Gone}, {401, 400, api.Waits}, {1000, 400, api.Waits}, {0, 400, api.Waits},
	} {
		closed(t, x.life).settle(x.rounds, nil, x.fate)
	}
	r := closed(t, 401)
	r.settle(400, nil, api.Waits)
	r.settle(1, nil, api.Gone)
	r = closed(t, 0)
	r.settle(400, nil, api.Waits)
	r.settle(400, nil, api.Waits)
}

// K1: all that was sent at once comes, of each stream in order, whatever turns they take.
func TestSettleBringsAll(t *testing.T) {
	for turns := api.TurnsFirst; turns <= api.TurnsFair; turns++ {
		c := api.Config{Streams: 2, Part: 3, Packet: 40, Paths: 2, Turns: turns, Waiting: 12, First: 65535}
		r := begin(t, c)
		want := map[int][]string{}
		for i := range 10 {
			m := ordered(i%2, fmt.Sprintf("%d: all comes at last", i))
			r.do(sending(m))
			want[i%2] = append(want[i%2], fmt.Sprintf("%d/%d=%s", i%2, i/2, m.Data))
		}
		l, n := Settle(r.l)
		got := map[int][]string{}
		for i, a := range l.Receiver.Log {
			got[a.Stream] = append(got[a.Stream], logOf(l.Receiver)[i])
		}
		if n == 0 || n == most || !same(got[0], want[0]) || !same(got[1], want[1]) {
			t.Errorf("turns %d: %d rounds deliver %v", turns, n, got)
		}
	}
}
