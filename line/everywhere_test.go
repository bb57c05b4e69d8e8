package line

import (
	"math"
	"reflect"
	"testing"

	"braidline/api"
	"braidline/sender"
)

var odd = []int{math.MinInt, math.MinInt + 1, -65536, -1, 0, 1, 2, 3, 4, 65535, 65536, 70002, math.MaxInt - 1, math.MaxInt}

// Z1: whatever numbers stand in configs, New and Play answer the error that sender.Wrong has.
func TestOddConfigs(t *testing.T) {
	for _, a := range odd {
		for _, b := range odd {
			for _, c := range []api.Config{
				{Streams: a, Part: b, Packet: a, Paths: b, Turns: a, Waiting: b, First: a}, {Streams: a, Part: 4, Packet: 50, Paths: 1, Turns: b, Waiting: 4},
				{Streams: 1, Part: 4, Packet: 50, Paths: a, Turns: 1, Waiting: 4, First: b}, {Streams: 1, Part: a, Packet: 50, Paths: 1, Turns: 1, Waiting: b},
			} {
				l, err := New(c)
				x, answers, wrong := Play(c, []api.Step{clock})
				if want := sender.Wrong(c); err != want || wrong != want {
					t.Errorf("New(%+v) has error %d, and Play %d, not %d", c, err, wrong, want)
				}
				if err != api.OK && (!same(l, api.Line{}) || !same(x, api.Line{}) || len(answers) != 0) {
					t.Errorf("%+v: beside an error are answered %+v, %+v and %+v", c, l, x, answers)
				}
			}
		}
	}
}

// Z1: whatever numbers stand in steps, Do answers, as the chapter has it.
func TestOddSteps(t *testing.T) {
	c := plain
	c.First = 65534
	for _, a := range odd {
		for _, b := range odd {
			m := newModel(c)
			l, _ := New(c)
			for _, x := range []api.Step{
				{Kind: a, N: b, Message: ordered(0, "abcdefghi")}, sending(ordered(0, "jk")), {Kind: b, N: a}, {Kind: a, N: a, Message: loose(b, "l")},
				sending(api.Message{Stream: a, Life: b, Data: []byte("m")}), sending(api.Message{Life: a, Tries: b, Data: []byte("n")}), {Kind: api.StepSend, N: a, Message: loose(1, "o")},
				doubling(a), dropping(b), going(a), going(0), going(b), going(0), {Kind: api.StepClock, N: a}, {Kind: b, N: b, Message: loose(a, "p")},
			} {
				l = both(t, l, m, x)
			}
		}
	}
}

// Z1: what New answers beside an error is no line, but no call panics on it.
func TestNoLine(t *testing.T) {
	var l api.Line
	if got := Own(l); !same(got, l) {
		t.Errorf("Own answers %+v", got)
	}
	r := &run{t, l}
	r.refuse(sending(ordered(0, "a")), api.ErrRange)
	r.refuse(going(0), api.ErrNone)
	r.refuse(api.Step{}, api.ErrKind)
	if got, a := Do(l, clock); a != (api.Answer{}) || got.Sender.Clock != 1 || len(got.Way) != 0 {
		t.Errorf("the clock makes %+v, answered by %+v", got, a)
	}
	for _, back := range []bool{false, true} {
		r := (&run{t, l}).lay(0, back, part(0, 0, "a"), forward(3), sack(0, 7))
		if got, a := Do(r.l, going(0)); a != (api.Answer{}) || len(got.Receiver.Log) != 0 {
			t.Errorf("a packet makes %+v, answered by %+v", got, a)
		}
	}
}

// Z1: whatever lies on the way, and whichever path that names, no step panics.
func TestOddPackets(t *testing.T) {
	for _, a := range odd {
		for first := range 256 {
			for _, back := range []bool{false, true} {
				r := begin(t, plain).do(sending(ordered(0, "hello")), sending(loose(1, "you")))
				r.l.Way = []api.Packet{
					{Path: a, Back: back, Bytes: []byte{byte(first), 4, 0, 8, 0, 9}}, {Path: a, Back: back, Bytes: []byte{1, 8, 255, byte(first), byte(first), 3, 0, 0, 0, 'x'}},
					{Path: a, Back: back, Bytes: []byte{3, 6, byte(first), 9, byte(first), 1, 0, byte(first)}}, {Path: a, Back: back, Bytes: []byte{2, 8, 0, 7, 1, 0, 0, byte(first), 0, byte(first)}},
				}
				for range 4 {
					r.do(doubling(0), going(1), going(0))
				}
				for i, p := range r.l.Way {
					if p.Back && p.Path != a && p.Path != 0 {
						t.Fatalf("packet %d is %+v", i, p)
					}
				}
			}
		}
	}
}

// spares are what stands in spare room: were it read, more would wait, go, come, or be known.
var spares = map[reflect.Type]any{
	reflect.TypeFor[byte]():        byte('!'),
	reflect.TypeFor[int]():         1,
	reflect.TypeFor[api.Queued]():  api.Queued{Message: api.Message{Data: []byte("!!!")}},
	reflect.TypeFor[api.Sent]():    api.Sent{State: api.Lost, Life: 1, Chunk: api.Chunk{Kind: 1, Data: []byte("!!")}},
	reflect.TypeFor[api.Path]():    api.Path{Window: 100, Flight: 3, Alarm: 1},
	reflect.TypeFor[api.Span]():    api.Span{From: 1, To: 9},
	reflect.TypeFor[api.Skip]():    api.Skip{Stream: 1},
	reflect.TypeFor[api.Packet]():  api.Packet{Path: 1, Bytes: []byte{2, 4, 0, 7, 0, 5}},
	reflect.TypeFor[api.Piece]():   api.Piece{Number: 7, Chunk: api.Chunk{Kind: 1, Last: true, Data: []byte("!")}},
	reflect.TypeFor[api.Arrival](): api.Arrival{Data: []byte("!!")},
	reflect.TypeFor[api.Step]():    api.Step{Kind: api.StepClock},
}

// roomy is a copy of x whose lists have spare room, with something in it.
func roomy[T any](x T) T {
	return deep(reflect.ValueOf(x), func(l reflect.Value) reflect.Value {
		spare := reflect.ValueOf(spares[l.Type().Elem()])
		return reflect.Append(l, spare, spare, spare).Slice(0, l.Len())
	}).Interface().(T)
}

// whole is a copy of x in which spare room is none.
func whole[T any](x T) T {
	return unspare(reflect.ValueOf(x)).Interface().(T)
}

func unspare(v reflect.Value) reflect.Value {
	if v.Kind() == reflect.Slice {
		v = v.Slice(0, v.Cap())
	}
	out := reflect.New(v.Type()).Elem()
	out.Set(v)
	switch v.Kind() {
	case reflect.Struct:
		for i := range v.NumField() {
			out.Field(i).Set(unspare(v.Field(i)))
		}
	case reflect.Slice:
		out.Set(reflect.MakeSlice(v.Type(), v.Len(), v.Len()))
		for i := range v.Len() {
			out.Index(i).Set(unspare(v.Index(i)))
		}
	}
	return out
}

// memory is where the lists of v are, with their spare room.
func memory(v reflect.Value) [][2]uintptr {
	var out [][2]uintptr
	switch v.Kind() {
	case reflect.Struct:
		for i := range v.NumField() {
			out = append(out, memory(v.Field(i))...)
		}
	case reflect.Slice:
		if v.Cap() > 0 {
			out = append(out, [2]uintptr{v.Pointer(), v.Pointer() + uintptr(v.Cap())*v.Type().Elem().Size()})
		}
		for i := range v.Len() {
			out = append(out, memory(v.Index(i))...)
		}
	}
	return out
}

// apart: no two lists of the answers share memory, nor does one with what was handed in.
func apart(t *testing.T, what string, handed []any, answers ...any) {
	t.Helper()
	var ours, theirs [][2]uintptr
	for _, x := range answers {
		ours = append(ours, memory(reflect.ValueOf(x))...)
	}
	for _, x := range handed {
		theirs = append(theirs, memory(reflect.ValueOf(x))...)
	}
	for i, a := range ours {
		for _, b := range append(ours[i+1:len(ours):len(ours)], theirs...) {
			if a[0] < b[1] && b[0] < a[1] {
				t.Fatalf("%s: lists of %+v share memory", what, answers)
			}
		}
	}
}

// someLines are lines that steps make, each with a step that may be done.
func someLines(many int, see func(api.Line, api.Step)) {
	for seed := range many {
		roll := dice(seed)
		c := someConfig(roll)
		l, _ := New(c)
		for range 60 {
			x := someStep(roll, c, len(l.Way))
			if roll(8) == 0 {
				see(l, x)
			}
			l, _ = Do(l, x)
		}
	}
}

// Z2: lines, steps, their lists, and the spare room behind all of them are neither changed, nor looked at, nor kept; what is answered is the caller's.
func TestAllIsOnlyRead(t *testing.T) {
	someLines(150, func(l api.Line, x api.Step) {
		for name, call := range map[string]func(api.Line, api.Step) (api.Line, api.Answer){
			"Own": func(l api.Line, _ api.Step) (api.Line, api.Answer) { return Own(l), api.Answer{} },
			"Do":  Do,
		} {
			want, a := call(l, x)
			inL, inX := roomy(l), roomy(x)
			wasL, wasX := whole(inL), whole(inX)
			got, b := call(inL, inX)
			if !same(got, want) || a != b {
				t.Fatalf("%s of %+v: with spare room %+v becomes %+v, answered by %+v, not %+v, answered by %+v", name, x, l, got, b, want, a)
			}
			if !reflect.DeepEqual(whole(inL), wasL) || !reflect.DeepEqual(whole(inX), wasX) {
				t.Fatalf("%s: of what was handed in is left: %+v, %+v", name, inL, inX)
			}
			apart(t, name, []any{inL, inX}, got)
		}
	})
}

// Z2: of Play likewise.
func TestPlayOnlyReads(t *testing.T) {
	for seed := range 60 {
		roll := dice(seed)
		c := someConfig(roll)
		var l []api.Step
		for range roll(60) {
			l = append(l, someStep(roll, c, 5))
		}
		want, answers, err := Play(c, l)
		in := roomy(l)
		was := whole(in)
		got, more, again := Play(c, in)
		if err != api.OK || again != api.OK || !same(got, want) || !same(more, answers) {
			t.Fatalf("with spare room %+v become %+v, not %+v", l, got, want)
		}
		if !reflect.DeepEqual(whole(in), was) {
			t.Fatalf("of what was handed in is left: %+v", in)
		}
		apart(t, "Play", []any{in}, got, more)
	}
}

// Z2: what was handed in may share memory with itself: what is answered does not.
func TestAnswersShareNothing(t *testing.T) {
	b := []byte{1, 11, 0, 7, 0, 3, 0, 0, 0, 'a', 'b', 'c', 'd'}
	r := begin(t, plain).do(sending(api.Message{Data: b}), sending(api.Message{Data: b}))
	for range 3 {
		r.l.Way = append(r.l.Way, api.Packet{Bytes: b})
	}
	for i := range r.l.Sender.Queue {
		r.l.Sender.Queue[i].Message.Data = b
	}
	for i := range r.l.Sender.Out {
		r.l.Sender.Out[i].Chunk.Data = b[9:]
	}
	r.l.Receiver.Log = []api.Arrival{{Data: b}, {Data: b}}
	r.l.Receiver.Pieces = []api.Piece{{Number: 9, Chunk: api.Chunk{Tag: 9, Mid: 3, Data: b}}}
	apart(t, "Own", []any{r.l}, Own(r.l))
	for _, x := range []api.Step{sending(api.Message{Data: b}), going(1), going(2), dropping(1), doubling(0), doubling(2), clock, {}, going(9), sending(loose(9, "x"))} {
		l, _ := Do(r.l, x)
		apart(t, "Do", []any{r.l, b}, l)
	}
	l, _ := New(plain)
	apart(t, "New", nil, l)
}

// Z2: nothing of a message is kept: who handed it in may change it.
func TestMessagesAreNotKept(t *testing.T) {
	b := []byte("hello")
	r := begin(t, plain).do(sending(api.Message{Ordered: true, Data: b}))
	steps := []api.Step{sending(api.Message{Ordered: true, Data: b})}
	l, _, _ := Play(plain, steps)
	copy(b, "HELLO")
	steps[0] = clock
	for _, r := range []*run{r, {t, l}} {
		r.do(going(0), going(0))
		r.log("0/0=hello")
		r.fates(api.Delivered)
	}
}

// Z3: lists that are nil, and lists without entries, are the same.
func TestNilIsEmpty(t *testing.T) {
	empty := func(x api.Line) api.Line {
		return deep(reflect.ValueOf(x), func(l reflect.Value) reflect.Value { return l }).Interface().(api.Line)
	}
	none := func(x api.Line) api.Line { return deep(reflect.ValueOf(x), orNil).Interface().(api.Line) }
	someLines(100, func(l api.Line, x api.Step) {
		a, b := empty(l), none(l)
		y, one := Do(a, x)
		z, two := Do(b, x)
		if !same(y, z) || one != two || !same(Own(a), Own(b)) {
			t.Fatalf("of %+v lists without entries and nil differ", l)
		}
	})
	fresh, _ := New(plain)
	for _, l := range [][]api.Step{nil, {}, []api.Step{clock}[:0]} {
		if x, answers, err := Play(plain, l); !same(x, fresh) || len(answers) != 0 || err != api.OK {
			t.Errorf("Play of no steps answers %+v, %v, and error %d", x, answers, err)
		}
	}
	for _, data := range [][]byte{nil, {}, []byte("abc")[:0]} {
		begin(t, plain).refuse(sending(api.Message{Data: data}), api.ErrMuch)
	}
}

// Z5: fields that a kind of step has not mean nothing, whatever stands in them.
func TestFieldsThatAreNotNamed(t *testing.T) {
	someLines(60, func(l api.Line, x api.Step) {
		want, a := Do(l, x)
		for _, n := range odd {
			y := x
			switch x.Kind {
			case api.StepSend:
				y.N = n
			case api.StepGo, api.StepDrop, api.StepTwice:
				y.Message = api.Message{Stream: n, Ordered: true, Life: n, Tries: n, Data: []byte("abc")}
			default:
				y.N, y.Message = n, api.Message{Stream: n, Life: n, Tries: n}
			}
			if got, b := Do(l, y); !same(got, want) || a != b {
				t.Fatalf("%+v makes of %+v: %+v, answered by %+v, not %+v, answered by %+v", y, l, got, b, want, a)
			}
		}
	})
}

// Z1: each call answers the same each time.
func TestAnswersHangOnArguments(t *testing.T) {
	someLines(100, func(l api.Line, x api.Step) {
		y, a := Do(l, x)
		z, b := Do(l, x)
		if !same(y, z) || a != b {
			t.Fatalf("%+v makes of %+v: %+v, then %+v", x, l, y, z)
		}
	})
}

// FuzzLine is run on its seeds by go test, and on more by go test -fuzz: all steps, told by bytes, go as the second wording has them.
func FuzzLine(f *testing.F) {
	f.Add([]byte{0, 0, 0, 0, 0, 0, 0}, []byte{0, 9, 3, 4, 1, 2, 6, 0, 0, 6, 0, 0, 12, 12, 12})
	f.Add([]byte{1, 3, 10, 1, 2, 3, 2}, []byte{0, 1, 30, 0, 2, 1, 40, 10, 7, 7, 10, 5, 1, 0, 1, 2, 2, 10, 8, 8, 8, 8, 10, 3, 4, 10})
	f.Add([]byte{3, 0, 80, 1, 4, 11, 3}, []byte{1, 0, 59, 5, 5, 10, 6, 2, 1, 9, 9, 2, 2, 2, 10, 8, 10, 8, 10, 8, 10, 8, 10, 8, 10, 8, 10})
	f.Fuzz(func(t *testing.T, config, b []byte) {
		told := func(l []byte) func(int) int {
			return func(below int) int {
				if len(l) == 0 {
					return 0
				}
				n := int(l[0]) % below
				l = l[1:]
				return n
			}
		}
		c := someConfig(told(config))
		l, _ := New(c)
		m := newModel(c)
		roll := told(b)
		for range min(len(b), 200) {
			l = both(t, l, m, someStep(roll, c, len(l.Way)))
		}
	})
}
