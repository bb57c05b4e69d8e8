package sender

import (
	"fmt"
	"math"
	"reflect"
	"strings"
	"testing"

	"braidline/api"
	"braidline/chunk"
)

var odd = []int{math.MinInt, math.MinInt + 1, -65536, -1, 0, 1, 2, 3, 4, 65535, 65536, 70002, math.MaxInt - 1, math.MaxInt}

// Z1: whatever numbers stand in configs, Wrong and New answer the same error, and beside one no sender.
func TestOddConfigs(t *testing.T) {
	for _, a := range odd {
		for _, b := range odd {
			for _, c := range []api.Config{
				{Streams: a, Part: b, Packet: a, Paths: b, Turns: a, Waiting: b, First: a}, {Streams: a, Part: 4, Packet: 50, Paths: 1, Turns: b, Waiting: 4},
				{Streams: 1, Part: 4, Packet: 50, Paths: a, Turns: 1, Waiting: 4, First: b}, {Streams: 1, Part: a, Packet: 50, Paths: 1, Turns: 1, Waiting: b},
			} {
				s, err := New(c)
				if err != Wrong(c) || err != api.OK && !same(s, api.Sender{}) || err == api.OK && s.Config != c {
					t.Errorf("New(%+v) answers %+v, and error %d", c, s, err)
				}
			}
		}
	}
}

// Z1: whatever numbers stand in messages and chunks, Send and Hear answer, as the chapter has it.
func TestOddMessagesAndChunks(t *testing.T) {
	c := plain
	c.First = 65534
	for _, a := range odd {
		for _, b := range odd {
			s, _ := New(c)
			m := newModel(c)
			for _, x := range []act{
				{kind: "send", message: api.Message{Stream: a, Life: b, Data: []byte("a")}}, {kind: "send", message: api.Message{Stream: 1, Life: a, Tries: b, Data: []byte("bcdefgh")}},
				{kind: "send", message: loose(0, "ijk")}, {kind: "pump"}, ahead(a, b), ahead(b, a, at(a), at(b)), ahead(0, a, api.Span{From: a, To: b}), {kind: "pump"},
				ahead(0, b, api.Span{From: b, To: a}, at(2), at(math.MaxInt), at(math.MinInt)), {kind: "hear", chunk: api.Chunk{Kind: a, Tag: 1}}, {kind: "tick"}, {kind: "pump"},
				ahead(1, a, api.Span{From: math.MinInt, To: math.MaxInt}), {kind: "pump"},
			} {
				s = both(t, s, m, x)
			}
		}
	}
	// Tags that are none are those of their rests.
	r := out4(t)
	for _, tag := range []int{8 + 65536, 8 - 65536, 8 + 65536*1000} {
		is(t, fmt.Sprint("cum, of tag ", tag), Hear(r.s, sack(tag, 1)).Cum, 8)
	}
}

// Z1: what New answers beside an error is no sender, but no call panics on it.
func TestNoSender(t *testing.T) {
	var s api.Sender
	is(t, "calm", Calm(s), true)
	if _, _, err := Send(s, loose(0, "a")); err != api.ErrRange {
		t.Errorf("Send has error %d", err)
	}
	if got, l := Pump(s); !same(got, s) || len(l) != 0 {
		t.Errorf("Pump answers %+v and %v", got, l)
	}
	for _, c := range []api.Chunk{{}, sack(0, 0), sack(65535, 7), sack(0, 0, at(2)), {Kind: api.ChForward}} {
		if got := Hear(s, c); !same(got, s) {
			t.Errorf("Hear of %+v answers %+v", c, got)
		}
	}
	if got := Tick(s); got.Clock != 1 || len(got.Paths)+len(got.Out) != 0 {
		t.Errorf("Tick answers %+v", got)
	}
	if got := Own(s); !same(got, s) {
		t.Errorf("Own answers %+v", got)
	}
}

// deep is a copy of v, which shares no list with it: each list is what list makes of the copies of its entries.
func deep(v reflect.Value, list func(reflect.Value) reflect.Value) reflect.Value {
	out := reflect.New(v.Type()).Elem()
	out.Set(v)
	switch v.Kind() {
	case reflect.Struct:
		for i := range v.NumField() {
			out.Field(i).Set(deep(v.Field(i), list))
		}
	case reflect.Slice:
		out.Set(reflect.MakeSlice(v.Type(), v.Len(), v.Len()))
		for i := range v.Len() {
			out.Index(i).Set(deep(v.Index(i), list))
		}
		out.Set(list(out))
	}
	return out
}

// spares are what stands in spare room: were it read, more would wait, go, come, or be known.
var spares = map[reflect.Type]any{
	reflect.TypeFor[byte]():       byte('!'),
	reflect.TypeFor[int]():        1,
	reflect.TypeFor[api.Queued](): api.Queued{Message: api.Message{Data: []byte("!!!")}},
	reflect.TypeFor[api.Sent]():   api.Sent{State: api.Lost, Life: 1, Chunk: api.Chunk{Kind: 1, Data: []byte("!!")}},
	reflect.TypeFor[api.Path]():   api.Path{Window: 100, Flight: 3, Alarm: 1},
	reflect.TypeFor[api.Span]():   api.Span{From: 1, To: 9},
	reflect.TypeFor[api.Skip]():   api.Skip{Stream: 1},
	reflect.TypeFor[api.Packet](): api.Packet{Path: 1},
}

// roomy is a copy of x whose lists have spare room, with something in it.
func roomy[T any](x T) T {
	return deep(reflect.ValueOf(x), func(l reflect.Value) reflect.Value {
		spare := reflect.ValueOf(spares[l.Type().Elem()])
		return reflect.Append(l, spare, spare, spare).Slice(0, l.Len())
	}).Interface().(T)
}

// whole is a copy of x in which spare room is none.
func whole[T any](x T) T {
	return unspare(reflect.ValueOf(x)).Interface().(T)
}

func unspare(v reflect.Value) reflect.Value {
	if v.Kind() == reflect.Slice {
		v = v.Slice(0, v.Cap())
	}
	out := reflect.New(v.Type()).Elem()
	out.Set(v)
	switch v.Kind() {
	case reflect.Struct:
		for i := range v.NumField() {
			out.Field(i).Set(unspare(v.Field(i)))
		}
	case reflect.Slice:
		out.Set(reflect.MakeSlice(v.Type(), v.Len(), v.Len()))
		for i := range v.Len() {
			out.Index(i).Set(unspare(v.Index(i)))
		}
	}
	return out
}

// memory is where the lists of v are, with their spare room.
func memory(v reflect.Value) [][2]uintptr {
	var out [][2]uintptr
	switch v.Kind() {
	case reflect.Struct:
		for i := range v.NumField() {
			out = append(out, memory(v.Field(i))...)
		}
	case reflect.Slice:
		if v.Cap() > 0 {
			out = append(out, [2]uintptr{v.Pointer(), v.Pointer() + uintptr(v.Cap())*v.Type().Elem().Size()})
		}
		for i := range v.Len() {
			out = append(out, memory(v.Index(i))...)
		}
	}
	return out
}

// apart: no two lists of the answers share memory, nor does one with what was handed in.
func apart(t *testing.T, what string, handed []any, answers ...any) {
	t.Helper()
	var ours, theirs [][2]uintptr
	for _, x := range answers {
		ours = append(ours, memory(reflect.ValueOf(x))...)
	}
	for _, x := range handed {
		theirs = append(theirs, memory(reflect.ValueOf(x))...)
	}
	for i, a := range ours {
		for _, b := range append(ours[i+1:len(ours):len(ours)], theirs...) {
			if a[0] < b[1] && b[0] < a[1] {
				t.Fatalf("%s: lists of %+v share memory", what, answers)
			}
		}
	}
}

// someSenders are senders that the calls make, each with what may be told to it.
func someSenders(many int, see func(api.Sender, api.Chunk)) {
	for seed := range many {
		roll := dice(seed)
		c := someConfig(roll)
		s, _ := New(c)
		for range 40 {
			switch a := someAct(roll, c); a.kind {
			case "send":
				if x, _, err := Send(s, a.message); err == api.OK {
					s = x
				}
			case "pump":
				s, _ = Pump(s)
			case "hear":
				a.chunk.Tag += s.Cum
				s = Hear(s, a.chunk)
			case "tick":
				s = Tick(s)
			}
			if roll(8) == 0 {
				heard := someSack(roll).chunk
				heard.Tag += s.Cum
				see(s, heard)
			}
		}
	}
}

// Z2: senders, messages, chunks, their lists, and the spare room behind all of them are neither changed, nor looked at, nor kept; what is answered is the caller's.
func TestAllIsOnlyRead(t *testing.T) {
	message := ordered(0, "abcde")
	someSenders(150, func(s api.Sender, c api.Chunk) {
		for name, call := range map[string]func(api.Sender, api.Message, api.Chunk) (api.Sender, []api.Packet){
			"Own": func(s api.Sender, _ api.Message, _ api.Chunk) (api.Sender, []api.Packet) { return Own(s), nil },
			"Send": func(s api.Sender, m api.Message, _ api.Chunk) (api.Sender, []api.Packet) {
				s, _, _ = Send(s, m)
				return s, nil
			},
			"Pump": func(s api.Sender, _ api.Message, _ api.Chunk) (api.Sender, []api.Packet) { return Pump(s) },
			"Hear": func(s api.Sender, _ api.Message, c api.Chunk) (api.Sender, []api.Packet) { return Hear(s, c), nil },
			"Tick": func(s api.Sender, _ api.Message, _ api.Chunk) (api.Sender, []api.Packet) { return Tick(s), nil },
			"Calm": func(s api.Sender, _ api.Message, _ api.Chunk) (api.Sender, []api.Packet) {
				Calm(s)
				return api.Sender{}, nil
			},
		} {
			want, packets := call(s, message, c)
			inS, inM, inC := roomy(s), roomy(message), roomy(c)
			wasS, wasM, wasC := whole(inS), whole(inM), whole(inC)
			got, more := call(inS, inM, inC)
			if !same(got, want) || !same(more, packets) {
				t.Fatalf("%s: with spare room %+v becomes %+v, with packets %v, not %+v, with packets %v", name, s, got, more, want, packets)
			}
			if !reflect.DeepEqual(whole(inS), wasS) || !reflect.DeepEqual(whole(inM), wasM) || !reflect.DeepEqual(whole(inC), wasC) {
				t.Fatalf("%s: of what was handed in is left: %+v, %+v, %+v", name, inS, inM, inC)
			}
			apart(t, name, []any{inS, inM, inC}, got, more)
		}
	})
}

// Z2: what was handed in may share memory with itself: what is answered does not.
func TestAnswersShareNothing(t *testing.T) {
	b := []byte("abcdefgh")
	c := plain
	c.Part = 16
	r := begin(t, c, brief(api.Message{Data: b}, 1), api.Message{Data: b}, api.Message{Data: b}, api.Message{Data: b})
	for i := range r.s.Queue {
		r.s.Queue[i].Message.Data = b
	}
	r.s, _ = Pump(r.s)
	r.send(loose(0, "ijk"), loose(0, "lmn"))
	for i := range r.s.Out {
		r.s.Out[i].Chunk.Data = b
	}
	for i := range r.s.Queue {
		r.s.Queue[i].Message.Data = b
	}
	numbers := []int{1, 1, 1, 1, 1, 1}
	r.s.Fates, r.s.Mids, r.s.Sched.Had = numbers, numbers[:4], numbers[:2]
	for i := range 3 {
		s := Own(r.s)
		s, _ = Pump(Tick(r.s))
		apart(t, "Pump", []any{r.s}, s)
		apart(t, "Own", []any{r.s}, Own(r.s))
		apart(t, "Tick", []any{r.s}, Tick(r.s))
		apart(t, "Hear", []any{r.s}, Hear(r.s, sack(6+i, 400, at(2))))
		s, _, _ = Send(r.s, api.Message{Data: b})
		apart(t, "Send", []any{r.s, b}, s)
	}
	s, _ := New(c)
	apart(t, "New", nil, s)
}

// Z3: lists that are nil, and lists without entries, are the same.
func TestNilIsEmpty(t *testing.T) {
	empty := func(x api.Sender) api.Sender {
		return deep(reflect.ValueOf(x), func(l reflect.Value) reflect.Value { return l }).Interface().(api.Sender)
	}
	none := func(x api.Sender) api.Sender {
		return deep(reflect.ValueOf(x), func(l reflect.Value) reflect.Value {
			if l.Len() == 0 {
				return reflect.Zero(l.Type())
			}
			return l
		}).Interface().(api.Sender)
	}
	someSenders(60, func(s api.Sender, c api.Chunk) {
		a, b := empty(s), none(s)
		x, l := Pump(a)
		y, k := Pump(b)
		if !same(x, y) || !same(l, k) || !same(Own(a), Own(b)) || !same(Tick(a), Tick(b)) || !same(Hear(a, c), Hear(b, c)) || Calm(a) != Calm(b) {
			t.Fatalf("of %+v lists without entries and nil differ", s)
		}
	})
	r := out4(t)
	for _, spans := range [][]api.Span{nil, {}, []api.Span{at(2)}[:0]} {
		heard := &run{t, Hear(r.s, sack(7, 400, spans...))}
		heard.out("8:1F 9:2F 10:3F")
	}
	for _, data := range [][]byte{nil, {}, []byte("abc")[:0]} {
		if _, _, err := Send(r.s, api.Message{Data: data}); err != api.ErrMuch {
			t.Errorf("Send of %v has error %d", data, err)
		}
	}
}

// Z5: fields that a sack has not mean nothing, whatever stands in them.
func TestFieldsThatAreNotNamed(t *testing.T) {
	someSenders(60, func(s api.Sender, c api.Chunk) {
		want := Hear(s, c)
		for _, n := range odd {
			c.Stream, c.Mid, c.Part, c.Last, c.Ordered = n, n, n, n%2 == 0, n > 0
			c.Data, c.Skips = []byte("abc"), []api.Skip{{Stream: n, Mid: n, Ordered: true}, {}}
			if got := Hear(s, c); !same(got, want) {
				t.Fatalf("when %+v is heard, %+v is %+v, not %+v", c, s, got, want)
			}
		}
	})
}

// Z1: each call answers the same each time, and what goes are chunks of which none is wrong, in packets that are not too long.
func TestPacketsAreRight(t *testing.T) {
	someSenders(200, func(s api.Sender, _ api.Chunk) {
		x, l := Pump(s)
		y, k := Pump(s)
		if !same(x, y) || !same(l, k) {
			t.Fatalf("Pump of %+v answers %+v and %v, then %+v and %v", s, x, l, y, k)
		}
		for _, p := range l {
			if p.Back || p.Path < 0 || p.Path >= s.Config.Paths || len(p.Bytes) == 0 || len(p.Bytes) > s.Config.Packet {
				t.Fatalf("of %+v goes %+v", s, p)
			}
		}
		if strings.Contains(strings.Join(packetsOf(l), " "), "error") {
			t.Fatalf("of %+v goes %v", s, packetsOf(l))
		}
		for _, p := range x.Out {
			if err := chunk.Wrong(p.Chunk); p.State != api.Given && err != api.OK {
				t.Fatalf("of %+v part %+v is out, which has error %d", s, p, err)
			}
		}
	})
}

// FuzzSender is run on its seeds by go test, and on more by go test -fuzz: all acts, told by bytes, go as the second wording has them.
func FuzzSender(f *testing.F) {
	f.Add([]byte{0, 0, 0, 0, 0, 0, 0}, []byte{0, 9, 3, 4, 1, 2, 0, 5, 8, 4, 6, 9, 11})
	f.Add([]byte{1, 3, 10, 1, 2, 3, 2}, []byte{0, 1, 30, 0, 2, 1, 40, 10, 7, 7, 10, 5, 1, 0, 1, 2, 2, 10, 8, 8, 8, 8, 10, 3, 4, 10})
	f.Add([]byte{3, 0, 80, 1, 4, 11, 3}, []byte{1, 0, 59, 5, 5, 10, 6, 2, 1, 9, 9, 2, 2, 2, 10, 8, 10, 8, 10, 8, 10, 8, 10, 8, 10, 8, 10})
	f.Fuzz(func(t *testing.T, config, b []byte) {
		told := func(l []byte) func(int) int {
			return func(below int) int {
				if len(l) == 0 {
					return 0
				}
				n := int(l[0]) % below
				l = l[1:]
				return n
			}
		}
		c := someConfig(told(config))
		s, _ := New(c)
		m := newModel(c)
		roll := told(b)
		for range min(len(b), 300) {
			s = both(t, s, m, someAct(roll, c))
			numbered(t, s)
		}
	})
}
