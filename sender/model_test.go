package sender

import (
	"fmt"
	"slices"
	"strings"
	"testing"

	"braidline/api"
	"braidline/chunk"
	"braidline/packet"
	"braidline/paths"
	"braidline/receive"
	"braidline/sched"
	"braidline/score"
	"braidline/serial"
)

// model is a second wording of the chapter, sentence by sentence: it changes itself, asks anew wherever the chapter does, and has packets by paths.
type model struct {
	api.Sender
	chunks [][]api.Chunk
}

func newModel(c api.Config) *model {
	m := &model{}
	m.Config, m.Cum, m.Recover, m.Next, m.Room, m.Sched = c, c.First-1, c.First-1, c.First, 400, sched.New(c.Streams)
	for range c.Paths {
		m.Paths = append(m.Paths, paths.New(c.Part))
	}
	for range c.Streams {
		m.Mids = append(m.Mids, 0, 0)
	}
	return m
}

func (m *model) send(x api.Message) api.Errno {
	switch {
	case x.Stream < 0 || x.Stream >= m.Config.Streams || x.Life < 0 || x.Life > 1000 || x.Tries < 0 || x.Tries > 1000:
		return api.ErrRange
	case len(x.Data) == 0 || len(x.Data) > 60:
		return api.ErrMuch
	case len(m.Queue) == m.Config.Waiting:
		return api.ErrFull
	}
	m.Queue = append(m.Queue, api.Queued{ID: len(m.Fates), Mid: -1, Came: m.Clock, Message: x})
	m.Fates = append(m.Fates, 1)
	return api.OK
}

func (m *model) inQueue(id int) bool {
	for _, q := range m.Queue {
		if q.ID == id {
			return true
		}
	}
	return false
}

func (m *model) flights() (all int) {
	for i := range m.Paths {
		m.Paths[i].Flight = 0
		for _, p := range m.Out {
			if p.Path == i && p.State == api.InFlight {
				m.Paths[i].Flight += len(p.Chunk.Data)
			}
		}
		all += m.Paths[i].Flight
	}
	return all
}

func (m *model) point() (int, []api.Skip) { return score.Point(m.Out, m.Cum) }

func (m *model) isAbove() bool {
	n, _ := m.point()
	return n > m.Cum
}

func (m *model) gone(id int) {
	m.Fates[id] = 3
	var queue []api.Queued
	for _, q := range m.Queue {
		if q.ID != id {
			queue = append(queue, q)
			continue
		}
		if q.Parts != 0 {
			var p api.Sent
			p.Number, p.ID, p.Chunk.Last = m.Next, id, true
			p.Chunk.Stream, p.Chunk.Mid, p.Chunk.Part, p.Chunk.Ordered = q.Message.Stream, q.Mid%65536, q.Parts, q.Message.Ordered
			m.Out = append(m.Out, p)
			m.Next++
		}
		if m.Sched.Hand == id {
			m.Sched.Hand = -1
		}
	}
	m.Queue = queue
	for i := range m.Out {
		if m.Out[i].ID == id && m.Out[i].State != api.Arrived {
			m.Out[i].State = api.Given
		}
	}
	m.Forward = true
	m.flights()
}

func (m *model) pump() []api.Packet {
	m.chunks = make([][]api.Chunk, len(m.Paths))
	queue, out := slices.Clone(m.Queue), slices.Clone(m.Out)
	for _, q := range queue {
		if q.Message.Life > 0 && q.Came+q.Message.Life <= m.Clock {
			m.gone(q.ID)
		}
	}
	for _, p := range out {
		over := p.State != api.Arrived && p.Life > 0 && p.Came+p.Life <= m.Clock
		often := p.State == api.Lost && p.Tries > 0 && p.Times > p.Tries
		if m.Fates[p.ID] == 1 && (over || often) {
			m.gone(p.ID)
		}
	}
	m.forward()
	path := paths.Choose(m.Paths)
	for i := range m.Out {
		if m.Out[i].State == api.Lost && m.Paths[path].Flight < m.Paths[path].Window {
			m.goes(&m.Out[i], path)
		}
	}
	for m.handOn() {
	}
	for i := range m.Paths {
		p := &m.Paths[i]
		if p.Flight != 0 && p.Alarm == 0 {
			p.Alarm = m.Clock + p.Wait
		}
		if p.Flight == 0 && !m.isAbove() {
			p.Alarm = 0
		}
	}
	return m.packets()
}

func (m *model) forward() {
	to, skips := m.point()
	if m.Forward && to > m.Cum {
		path := paths.Choose(m.Paths)
		m.chunks[path] = append(m.chunks[path], api.Chunk{Kind: 3, Tag: serial.Tag(to), Skips: skips})
		m.Forward = false
		if m.Paths[path].Alarm == 0 {
			m.Paths[path].Alarm = m.Clock + m.Paths[path].Wait
		}
	}
}

func (m *model) goes(p *api.Sent, path int) {
	p.State, p.Path, p.Missed, p.Times = 1, path, 0, p.Times+1
	m.chunks[path] = append(m.chunks[path], p.Chunk)
	m.flights()
}

func (m *model) handOn() bool {
	path, i := paths.Choose(m.Paths), sched.Next(m.Config.Turns, m.Sched, m.Queue)
	if i == -1 || !paths.Open(m.Paths[path]) || len(m.Out) >= 60 {
		return false
	}
	q := &m.Queue[i]
	left := q.Message.Data[q.Sent:]
	bytes := left[:min(len(left), m.Config.Part)]
	if all := m.flights(); all != 0 && all+len(bytes) > m.Room {
		return false
	}
	if q.Mid < 0 {
		n := &m.Mids[q.Message.Stream]
		if !q.Message.Ordered {
			n = &m.Mids[len(m.Mids)/2+q.Message.Stream]
		}
		q.Mid = *n
		*n++
	}
	over := len(bytes) == len(left)
	m.Out = append(m.Out, api.Sent{Number: m.Next, ID: q.ID, Came: q.Came, Life: q.Message.Life, Tries: q.Message.Tries,
		Chunk: api.Chunk{Kind: 1, Tag: serial.Tag(m.Next), Stream: q.Message.Stream, Mid: serial.Tag(q.Mid), Part: q.Parts, Last: over, Ordered: q.Message.Ordered, Data: bytes}})
	m.Sched = sched.Had(m.Sched, *q, len(bytes), over)
	q.Sent += len(bytes)
	q.Parts++
	m.Next++
	if over {
		m.Queue = slices.Concat(m.Queue[:i], m.Queue[i+1:])
	}
	m.goes(&m.Out[len(m.Out)-1], path)
	return true
}

func (m *model) packets() []api.Packet {
	var out []api.Packet
	for path, l := range m.chunks {
		var b []byte
		for _, c := range l {
			more, _ := chunk.Bytes(c)
			if len(b)+len(more) > m.Config.Packet {
				out, b = append(out, api.Packet{Path: path, Bytes: b}), nil
			}
			b = append(b, more...)
		}
		if len(b) > 0 {
			out = append(out, api.Packet{Path: path, Bytes: b})
		}
	}
	return out
}

func (m *model) hear(c api.Chunk) {
	last := m.Cum
	for _, p := range m.Out {
		last = p.Number
	}
	if n := serial.Near(m.Cum, c.Tag); c.Kind != 2 || n < m.Cum || n > last {
		return
	}
	was := m.Cum
	var come, lost []int
	m.Out, m.Cum, come, lost = score.Sack(m.Out, m.Cum, c, m.Config.Paths)
	m.Room = c.Room
	m.flights()
	for i, n := range come {
		if n != 0 {
			m.Paths[i] = paths.Acked(m.Paths[i], n, m.Config.Part, m.Cum > was)
		}
	}
	if len(lost) > 0 && slices.Max(lost) > m.Recover {
		i := paths.Choose(m.Paths)
		m.Paths[i] = paths.Halved(m.Paths[i], m.Config.Part)
		m.Recover = m.Next - 1
	}
	m.Forward = m.Forward || m.Cum > was && m.isAbove()
	lacks := map[int]bool{}
	for _, p := range m.Out {
		if p.State != api.Arrived {
			lacks[p.ID] = true
		}
	}
	for id, fate := range m.Fates {
		if fate == 1 && !m.inQueue(id) && !lacks[id] {
			m.Fates[id] = 2
		}
	}
}

func (m *model) tick() {
	m.Clock++
	for i := range m.Paths {
		if a := m.Paths[i].Alarm; a != 0 && a <= m.Clock {
			m.Out = score.Late(m.Out, i)
			m.Paths[i] = paths.Late(m.Paths[i], m.Config.Part)
			m.Forward = m.Forward || m.isAbove()
		}
	}
	m.flights()
}

// act is one thing that is done to a sender.
type act struct {
	kind    string
	message api.Message
	chunk   api.Chunk // of which Tag is how far above Cum
}

// both does a to s and to m: they answer the same.
func both(t *testing.T, s api.Sender, m *model, a act) api.Sender {
	t.Helper()
	before := s
	var got, want any
	switch a.kind {
	case "send":
		x, id, err := Send(s, a.message)
		want := m.send(a.message)
		if err != want || err == api.OK && id != len(m.Fates)-1 || err != api.OK && id != 0 {
			t.Fatalf("Send of %+v to %+v answers %d and error %d, not error %d", a.message, s, id, err, want)
		}
		if err == api.OK {
			s = x
		}
	case "pump":
		s, got = Pump(s)
		want = m.pump()
	case "hear":
		a.chunk.Tag = serial.Tag(s.Cum + a.chunk.Tag)
		s = Hear(s, a.chunk)
		m.hear(a.chunk)
	case "tick":
		s = Tick(s)
		m.tick()
	}
	if !same(s, m.Sender) || !same(got, want) {
		t.Fatalf("%+v makes of %+v: %+v, with packets %v, not %+v, with packets %v", a, before, s, got, m.Sender, want)
	}
	if Calm(s) != (len(m.Queue)+len(m.Out) == 0) {
		t.Fatalf("%+v is calm: %t", s, Calm(s))
	}
	return s
}

func ahead(by, room int, spans ...api.Span) act {
	return act{kind: "hear", chunk: sack(by, room, spans...)}
}

// I1 to I4: all rows of up to five of some acts, each with a Pump behind it, as the second wording has them.
func TestAllRows(t *testing.T) {
	acts := []act{
		{kind: "send", message: brief(ordered(0, "abcdefghijk"), 2)}, {kind: "send", message: tried(loose(0, "lmnopq"), 1)}, {kind: "send", message: ordered(1, "rst")},
		{kind: "tick"}, {kind: "ticks"}, ahead(0, 5, at(2)), ahead(1, 400), ahead(2, 400, at(2)), ahead(0, 400, api.Span{From: 2, To: 4}),
	}
	depth := 5
	if testing.Short() {
		depth = 4
	}
	for turns := api.TurnsFirst; turns <= api.TurnsFair; turns++ {
		c := api.Config{Streams: 2, Part: 3, Packet: 40, Paths: 1 + turns%2, Turns: turns, Waiting: 3, First: 65534}
		var deeper func(s api.Sender, m model, left int)
		deeper = func(s api.Sender, m model, left int) {
			for _, a := range acts {
				next := model{Sender: Own(m.Sender)}
				x := s
				n := 1
				if a.kind == "ticks" {
					a.kind, n = "tick", 3
				}
				for range n {
					x = both(t, x, &next, a)
				}
				x = both(t, x, &next, act{kind: "pump"})
				if left > 1 {
					deeper(x, next, left-1)
				}
			}
		}
		s, _ := New(c)
		deeper(s, *newModel(c), depth)
	}
}

// dice answers numbers that hang on seed alone.
func dice(seed int) func(below int) int {
	n := uint64(seed)*0x9e3779b97f4a7c15 + 1
	return func(below int) int {
		n ^= n << 13
		n ^= n >> 7
		n ^= n << 17
		return int(n>>11) % below
	}
}

func someConfig(roll func(int) int) api.Config {
	return api.Config{Streams: 1 + roll(4), Part: 1 + roll(16), Packet: 40 + roll(81), Paths: 1 + roll(2), Turns: 1 + roll(5), Waiting: 1 + roll(12), First: []int{0, 1, 65535, 65530, 3000}[roll(5)]}
}

func someMessage(roll func(int) int, c api.Config) api.Message {
	m := api.Message{Stream: roll(c.Streams), Ordered: roll(2) == 0, Data: []byte(strings.Repeat(string(rune('a'+roll(26))), 1+roll(60)))}
	if roll(3) == 0 {
		m.Life = 1 + roll(8)
	}
	if roll(3) == 0 {
		m.Tries = 1 + roll(2)
	}
	return m
}

// someSack is what another side may tell, or, now and then, none would.
func someSack(roll func(int) int) act {
	a := ahead([]int{0, 0, 0, 1, 1, 2, 3, 5, -1, 61}[roll(10)], []int{400, 400, 100, 10, 0}[roll(5)])
	from := 0
	for range roll(4) {
		from += 1 + roll(4)
		to := from + roll(3)
		a.chunk.Spans = append(a.chunk.Spans, api.Span{From: from, To: to})
		from = to + 1
	}
	if roll(20) == 0 {
		a.chunk.Kind = roll(5)
	}
	return a
}

func someAct(roll func(int) int, c api.Config) act {
	switch n := roll(12); {
	case n < 3:
		return act{kind: "send", message: someMessage(roll, c)}
	case n < 7:
		return someSack(roll)
	case n < 9:
		return act{kind: "tick"}
	}
	return act{kind: "pump"}
}

// I1 to I4: long rows of acts, as the second wording has them.
func TestLongRows(t *testing.T) {
	for seed := range 1500 {
		roll := dice(seed)
		c := someConfig(roll)
		s, err := New(c)
		if err != api.OK {
			t.Fatalf("New(%+v) has error %d", c, err)
		}
		m := newModel(c)
		for range 120 {
			a := someAct(roll, c)
			// Of some the other side is hardly heard: paths fail, and others are taken.
			if seed%3 == 0 && a.kind == "hear" && roll(4) > 0 {
				a = act{kind: "tick"}
			}
			s = both(t, s, m, a)
			numbered(t, s)
		}
	}
}

// numbered: parts that are out are numbered from behind Cum up to ahead of Next, and what is on paths is no more than may be.
func numbered(t *testing.T, s api.Sender) {
	t.Helper()
	for i, p := range s.Out {
		if p.Number != s.Cum+1+i {
			t.Fatalf("part %d of %+v has number %d", i, s, p.Number)
		}
	}
	if s.Next != s.Cum+1+len(s.Out) || len(s.Queue) > s.Config.Waiting {
		t.Fatalf("next is %d of %+v", s.Next, s)
	}
	for i, p := range s.Paths {
		if p.Flight != score.Flight(s.Out, i) {
			t.Fatalf("flight of path %d is %d of %+v", i, p.Flight, s)
		}
	}
}

// side is a sender, a receiver, and packets between them.
type side struct {
	s   api.Sender
	r   api.Receiver
	way []api.Packet
}

func (l *side) pump() {
	s, more := Pump(l.s)
	l.s, l.way = s, append(l.way, more...)
}

// come has packet i come.
func (l *side) come(i int) {
	p := l.way[i]
	l.way = slices.Delete(l.way, i, i+1)
	chunks, _ := packet.Parse(p.Bytes)
	for _, c := range chunks {
		switch c.Kind {
		case api.ChSack:
			l.s = Hear(l.s, c)
		case api.ChData:
			l.r = receive.Data(l.r, c)
		case api.ChForward:
			l.r = receive.Forward(l.r, c)
		}
	}
	if !p.Back {
		b, _ := packet.Bytes([]api.Chunk{receive.Sack(l.r)}, 200)
		l.way = append(l.way, api.Packet{Path: p.Path, Back: true, Bytes: b})
	}
	l.pump()
}

// Who is not to be lost is not: whatever is lost, comes twice or in another order, in the end what has neither Life nor Tries is delivered, and what is said to be delivered has come.
func TestNothingIsLost(t *testing.T) {
	for seed := range 400 {
		roll := dice(seed)
		c := someConfig(roll)
		s, _ := New(c)
		l := side{s: s, r: receive.New(c)}
		var taken []api.Message
		for range 150 {
			switch n := roll(10); {
			case n < 3:
				m := someMessage(roll, c)
				if x, _, err := Send(l.s, m); err == api.OK {
					l.s, taken = x, append(taken, m)
				}
			case n < 4:
				l.s = Tick(l.s)
			case len(l.way) == 0:
			case n < 5:
				i := roll(len(l.way))
				l.way = slices.Delete(l.way, i, i+1)
			case n < 6:
				l.way = append(l.way, l.way[roll(len(l.way))])
			default:
				l.come(roll(len(l.way)))
			}
			l.pump()
		}
		for n := 0; !Calm(l.s) || len(l.way) > 0; n++ {
			for range len(l.way) {
				l.come(0)
			}
			l.s = Tick(l.s)
			l.pump()
			if n > 400 {
				t.Fatalf("%d: it goes on and on: %+v", seed, l.s)
			}
		}
		settled(t, l, taken)
	}
}

func settled(t *testing.T, l side, taken []api.Message) {
	t.Helper()
	name := func(stream int, ordered bool, data []byte) string { return fmt.Sprint(stream, ordered, string(data)) }
	log := map[string]int{}
	for _, a := range l.r.Log {
		log[name(a.Stream, a.Ordered, a.Data)]++
	}
	for id, m := range taken {
		k := name(m.Stream, m.Ordered, m.Data)
		switch fate := l.s.Fates[id]; {
		case fate == api.Delivered && log[k] == 0:
			t.Fatalf("message %d, %+v, is said to be delivered, and is not", id, m)
		case fate == api.Delivered:
			log[k]--
		case fate == api.Waits || m.Life == 0 && m.Tries == 0:
			t.Fatalf("message %d, %+v, has fate %d", id, m, fate)
		}
	}
}
