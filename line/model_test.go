package line

import (
	"fmt"
	"strings"
	"testing"

	"braidline/api"
	"braidline/chunk"
	"braidline/receive"
	"braidline/sender"
)

// model is a second wording of the chapter, sentence by sentence: it changes itself, and reads and writes packets chunk by chunk.
type model struct {
	s   api.Sender
	r   api.Receiver
	way []api.Packet
}

func newModel(c api.Config) *model {
	m := &model{r: receive.New(c)}
	m.s, _ = sender.New(c)
	return m
}

func (m *model) put(p api.Packet) {
	if m.way = append(m.way, p); len(m.way) == 41 {
		m.way = m.way[:40]
	}
}

func (m *model) do(x api.Step) (a api.Answer) {
	there := x.N >= 0 && x.N < len(m.way)
	switch {
	case x.Kind == 1:
		s, id, err := sender.Send(m.s, x.Message)
		if err != 0 {
			return api.Answer{Err: err}
		}
		m.s, a.N = s, id
	case x.Kind >= 2 && x.Kind <= 4 && !there:
		return api.Answer{Err: api.ErrNone}
	case x.Kind == 4:
		m.put(m.way[x.N])
	case x.Kind == 3, x.Kind == 2:
		var left []api.Packet
		for i, p := range m.way {
			if i != x.N {
				left = append(left, p)
			}
		}
		p := m.way[x.N]
		m.way = left
		if x.Kind == 2 {
			m.come(p)
		}
	case x.Kind == 5:
		m.s = sender.Tick(m.s)
	default:
		return api.Answer{Err: api.ErrKind}
	}
	s, l := sender.Pump(m.s)
	m.s = s
	for _, p := range l {
		m.put(p)
	}
	return a
}

func (m *model) come(p api.Packet) {
	var l []api.Chunk
	for b := p.Bytes; len(b) > 0; {
		c, n, err := chunk.Parse(b)
		if err != 0 {
			return
		}
		l, b = append(l, c), b[n:]
	}
	toldOf := 0
	for _, c := range l {
		if p.Back {
			m.s = sender.Hear(m.s, c)
			continue
		}
		m.r = receive.Forward(receive.Data(m.r, c), c)
		if c.Kind != 2 {
			toldOf++
		}
	}
	if toldOf > 0 {
		b, _ := chunk.Bytes(receive.Sack(m.r))
		m.put(api.Packet{Path: p.Path, Back: true, Bytes: b})
	}
}

// both has x done by Do and by m: they answer the same.
func both(t *testing.T, l api.Line, m *model, x api.Step) api.Line {
	t.Helper()
	got, a := Do(l, x)
	b := m.do(x)
	if want := (api.Line{Sender: m.s, Receiver: m.r, Way: m.way}); a != b || !same(got, want) {
		t.Fatalf("%+v makes of %+v: %+v, answered by %+v, not %+v, answered by %+v", x, l, got, a, want, b)
	}
	if a.Err != api.OK && (a.N != 0 || !same(got, l)) {
		t.Fatalf("%+v, which is refused, makes of %+v: %+v, answered by %+v", x, l, got, a)
	}
	return got
}

// J1: all rows of up to five of some steps, as the second wording has them.
func TestAllRows(t *testing.T) {
	steps := []api.Step{sending(brief(ordered(0, "abcdefghijk"), 2)), sending(loose(1, "lmnopq")), going(0), going(1), dropping(0), doubling(0), clock}
	for turns := api.TurnsFirst; turns <= api.TurnsFair; turns++ {
		c := api.Config{Streams: 2, Part: 3, Packet: 40, Paths: 1 + turns%2, Turns: turns, Waiting: 2, First: 65534}
		var deeper func(l api.Line, m model, left int)
		deeper = func(l api.Line, m model, left int) {
			for _, x := range steps {
				next := model{m.s, m.r, append([]api.Packet(nil), m.way...)}
				y := both(t, l, &next, x)
				if left > 1 {
					deeper(y, next, left-1)
				}
			}
		}
		l, _ := New(c)
		deeper(l, *newModel(c), 5)
	}
}

// dice answers numbers that hang on seed alone.
func dice(seed int) func(below int) int {
	n := uint64(seed)*0x9e3779b97f4a7c15 + 1
	return func(below int) int {
		n ^= n << 13
		n ^= n >> 7
		n ^= n << 17
		return int(n>>11) % below
	}
}

func someConfig(roll func(int) int) api.Config {
	return api.Config{Streams: 1 + roll(4), Part: 1 + roll(16), Packet: 40 + roll(81), Paths: 1 + roll(2), Turns: 1 + roll(5), Waiting: 1 + roll(12), First: []int{0, 1, 65535, 65530, 3000}[roll(5)]}
}

func someMessage(roll func(int) int, c api.Config) api.Message {
	m := api.Message{Stream: roll(c.Streams), Ordered: roll(2) == 0, Data: []byte(strings.Repeat(string(rune('a'+roll(26))), 1+roll(60)))}
	if roll(3) == 0 {
		m.Life = 1 + roll(8)
	}
	if roll(3) == 0 {
		m.Tries = 1 + roll(2)
	}
	return m
}

// someStep is one of a line with so many packets on the way; now and then none that may be.
func someStep(roll func(int) int, c api.Config, way int) api.Step {
	n := roll(max(way, 1))
	switch roll(14) {
	case 0, 1, 2:
		return sending(someMessage(roll, c))
	case 3:
		return clock
	case 4:
		return dropping(n)
	case 5, 6:
		return doubling(n)
	case 7:
		return api.Step{Kind: roll(7), N: roll(50) - 5, Message: api.Message{Stream: roll(6), Life: roll(1100), Tries: roll(1100), Data: []byte("abc")}}
	}
	return going(n)
}

// moody is someStep of a line on which, by mood, packets crowd the way (1), or hardly one comes, so that paths fail, and others are taken (2).
func moody(mood int, roll func(int) int, c api.Config, way int) api.Step {
	x := someStep(roll, c, way)
	if mood != 1 && mood != 2 || x.Kind != api.StepGo && x.Kind != api.StepDrop || roll(5) == 0 {
		return x
	}
	if mood == 1 {
		return doubling(x.N)
	}
	return clock
}

// J1: long rows of steps, as the second wording has them; Play answers what these do, step by step.
func TestLongRows(t *testing.T) {
	for seed := range 400 {
		roll := dice(seed)
		c := someConfig(roll)
		l, err := New(c)
		if err != api.OK {
			t.Fatalf("New(%+v) has error %d", c, err)
		}
		m, played := newModel(c), newModel(c)
		var steps []api.Step
		for range 150 {
			x := moody(seed%4, roll, c, len(l.Way))
			l = both(t, l, m, x)
			right(t, l)
			steps = append(steps, x)
		}
		x, answers, err := Play(c, steps)
		if err != api.OK || !same(x, l) || len(answers) != len(steps) {
			t.Fatalf("Play of %+v answers %+v, and error %d", steps, x, err)
		}
		for i, a := range answers {
			if want := played.do(steps[i]); a != want {
				t.Fatalf("step %d, %+v, is answered by %+v, not %+v", i, steps[i], a, want)
			}
		}
	}
}

// right: on the way are no more packets than may be, all of which can be read, on paths that there are, sacks alone Back, and all else to the receiver.
func right(t *testing.T, l api.Line) {
	t.Helper()
	if len(l.Way) > api.MaxPackets {
		t.Fatalf("%d packets are on the way", len(l.Way))
	}
	for _, p := range l.Way {
		c, _, err := chunk.Parse(p.Bytes)
		if err != api.OK || p.Path < 0 || p.Path >= l.Sender.Config.Paths || len(p.Bytes) > l.Sender.Config.Packet || p.Back != (c.Kind == api.ChSack) {
			t.Fatalf("%+v is on the way", p)
		}
	}
}

// All comes at last: whatever was lost, came twice or in another order, when nothing is lost any more what has neither Life nor Tries is delivered, and what is said to be delivered has come.
func TestAllComesAtLast(t *testing.T) {
	for seed := range 300 {
		roll := dice(seed)
		c := someConfig(roll)
		r := begin(t, c)
		var taken []api.Message
		for range 150 {
			x := moody(seed%4, roll, c, len(r.l.Way))
			l, a := Do(r.l, x)
			if x.Kind == api.StepSend && a.Err == api.OK {
				taken = append(taken, x.Message)
			}
			r.l = l
		}
		for n := 0; !sender.Calm(r.l.Sender) || len(r.l.Way) > 0; n++ {
			for range len(r.l.Way) {
				r.do(going(0))
			}
			if r.do(clock); n > 400 {
				t.Fatalf("%d: it goes on and on: %+v", seed, r.l)
			}
		}
		settled(t, r.l, taken)
	}
}

func settled(t *testing.T, l api.Line, taken []api.Message) {
	t.Helper()
	name := func(stream int, ordered bool, data []byte) string { return fmt.Sprint(stream, ordered, string(data)) }
	log := map[string]int{}
	for _, a := range l.Receiver.Log {
		log[name(a.Stream, a.Ordered, a.Data)]++
	}
	for id, m := range taken {
		k := name(m.Stream, m.Ordered, m.Data)
		switch fate := l.Sender.Fates[id]; {
		case fate == api.Delivered && log[k] == 0:
			t.Fatalf("message %d, %+v, is said to be delivered, and is not", id, m)
		case fate == api.Delivered:
			log[k]--
		case fate == api.Waits || m.Life == 0 && m.Tries == 0:
			t.Fatalf("message %d, %+v, has fate %d", id, m, fate)
		}
	}
}
