package fair

import (
	"math"
	"reflect"
	"testing"

	"braidline/api"
	"braidline/line"
)

// odd are the ends of int, and numbers beside what chapters name.
var odd = []int{math.MinInt, math.MinInt + 1, -65536, -1, 0, 1, 2, 3, 4, 40, 400, 401, 1000, 65535, 65536, 70002, math.MaxInt - 1, math.MaxInt}

// Z1: whatever numbers stood in the steps that made it, rounds of a line are as the chapter has them, and come to an end.
func TestOddSteps(t *testing.T) {
	c := plain
	c.First = 65534
	for _, a := range odd {
		for _, b := range odd {
			l, _ := line.New(c)
			for _, x := range []api.Step{
				{Kind: a, N: b, Message: ordered(0, "abcdefghi")}, sending(ordered(0, "jk")), {Kind: b, N: a}, {Kind: a, N: a, Message: loose(b, "l")},
				sending(api.Message{Stream: a, Life: b, Data: []byte("m")}), sending(api.Message{Life: a, Tries: b, Data: []byte("n")}), doubling(a), dropping(b), going(a), going(b),
			} {
				l, _ = line.Do(l, x)
			}
			both(t, l, nothing)
		}
	}
}

// Z1: what line.New answers beside an error is no line, but no call panics on it.
func TestNoLine(t *testing.T) {
	for _, c := range []api.Config{{}, {Streams: 5}, {Streams: -1, Paths: -1}} {
		l, err := line.New(c)
		if err == api.OK {
			t.Fatalf("New(%+v) has no error", c)
		}
		both(t, l, nothing)
		if got, n := Settle(l); n != 0 || !same(got, l) {
			t.Errorf("%d rounds make %+v", n, got)
		}
	}
}

// Z1: whatever lies on the way, and whichever path that names, rounds are as the chapter has them: what can't be read goes, too.
func TestOddPackets(t *testing.T) {
	for _, a := range odd {
		for first := range 256 {
			l := begin(t, plain, sending(ordered(0, "hello")), sending(loose(1, "you"))).l
			for _, back := range []bool{false, true} {
				l.Way = append(l.Way,
					api.Packet{Path: a, Back: back}, api.Packet{Path: a, Back: back, Bytes: []byte{byte(first), 4, 0, 8, 0, 9}},
					api.Packet{Path: a, Back: back, Bytes: []byte{1, 11, 255, byte(first), byte(first), 3, 0, 0, 0, 'x', 'y'}},
					api.Packet{Path: a, Back: back, Bytes: []byte{2, 8, 0, 7, 1, 0, 0, byte(first), 0, byte(first)}},
				)
			}
			both(t, l, nothing)
		}
	}
}

// Z1: as many packets as may be on the way, and lines on which more lie than that, come all in one round.
func TestFullWays(t *testing.T) {
	for _, many := range []int{api.MaxPackets - 1, api.MaxPackets, api.MaxPackets + 1, 3 * api.MaxPackets} {
		l := begin(t, plain).l
		for range many {
			l.Way = append(l.Way, api.Packet{Bytes: []byte{0}})
		}
		x := Round(l)
		if len(x.Way) != 0 || x.Sender.Clock != 1 {
			t.Errorf("of %d packets %d are on the way at %d", many, len(x.Way), x.Sender.Clock)
		}
		if y, n := Settle(l); n != 1 || !same(y, x) {
			t.Errorf("%d packets take %d rounds", many, n)
		}
	}
}

// Z1: a clock near the greatest int goes round; no call panics.
func TestOddClocks(t *testing.T) {
	for _, a := range odd {
		l := begin(t, plain).l
		l.Sender.Clock = a
		r := (&run{t, l}).do(sending(brief(ordered(0, "abcdef"), 2)), sending(loose(1, "g")), doubling(0), dropping(0))
		both(t, r.l, nothing)
	}
}

// spares are what stands in spare room: were it read, more would wait, go, come, or be known.
var spares = map[reflect.Type]any{
	reflect.TypeFor[byte]():        byte('!'),
	reflect.TypeFor[int]():         1,
	reflect.TypeFor[api.Queued]():  api.Queued{Message: api.Message{Data: []byte("!!!")}},
	reflect.TypeFor[api.Sent]():    api.Sent{State: api.Lost, Life: 1, Chunk: api.Chunk{Kind: 1, Data: []byte("!!")}},
	reflect.TypeFor[api.Path]():    api.Path{Window: 100, Flight: 3, Alarm: 1},
	reflect.TypeFor[api.Span]():    api.Span{From: 1, To: 9},
	reflect.TypeFor[api.Skip]():    api.Skip{Stream: 1},
	reflect.TypeFor[api.Packet]():  api.Packet{Path: 1, Bytes: []byte{2, 4, 0, 7, 0, 5}},
	reflect.TypeFor[api.Piece]():   api.Piece{Number: 7, Chunk: api.Chunk{Kind: 1, Last: true, Data: []byte("!")}},
	reflect.TypeFor[api.Arrival](): api.Arrival{Data: []byte("!!")},
}

// roomy is a copy of x whose lists have spare room, with something in it.
func roomy[T any](x T) T {
	return deep(reflect.ValueOf(x), func(l reflect.Value) reflect.Value {
		spare := reflect.ValueOf(spares[l.Type().Elem()])
		return reflect.Append(l, spare, spare, spare).Slice(0, l.Len())
	}).Interface().(T)
}

// whole is a copy of x in which spare room is none.
func whole[T any](x T) T {
	return unspare(reflect.ValueOf(x)).Interface().(T)
}

func unspare(v reflect.Value) reflect.Value {
	if v.Kind() == reflect.Slice {
		v = v.Slice(0, v.Cap())
	}
	out := reflect.New(v.Type()).Elem()
	out.Set(v)
	switch v.Kind() {
	case reflect.Struct:
		for i := range v.NumField() {
			out.Field(i).Set(unspare(v.Field(i)))
		}
	case reflect.Slice:
		out.Set(reflect.MakeSlice(v.Type(), v.Len(), v.Len()))
		for i := range v.Len() {
			out.Index(i).Set(unspare(v.Index(i)))
		}
	}
	return out
}

// memory is where the lists of v are, with their spare room.
func memory(v reflect.Value) [][2]uintptr {
	var out [][2]uintptr
	switch v.Kind() {
	case reflect.Struct:
		for i := range v.NumField() {
			out = append(out, memory(v.Field(i))...)
		}
	case reflect.Slice:
		if v.Cap() > 0 {
			out = append(out, [2]uintptr{v.Pointer(), v.Pointer() + uintptr(v.Cap())*v.Type().Elem().Size()})
		}
		for i := range v.Len() {
			out = append(out, memory(v.Index(i))...)
		}
	}
	return out
}

// apart: no two lists of the answers share memory, nor does one with what was handed in.
func apart(t *testing.T, what string, handed []any, answers ...any) {
	t.Helper()
	var ours, theirs [][2]uintptr
	for _, x := range answers {
		ours = append(ours, memory(reflect.ValueOf(x))...)
	}
	for _, x := range handed {
		theirs = append(theirs, memory(reflect.ValueOf(x))...)
	}
	for i, a := range ours {
		for _, b := range append(ours[i+1:len(ours):len(ours)], theirs...) {
			if a[0] < b[1] && b[0] < a[1] {
				t.Fatalf("%s: lists of %+v share memory", what, answers)
			}
		}
	}
}

// calls are all calls on a line.
var calls = map[string]func(api.Line) (api.Line, int){
	"Round":  func(l api.Line) (api.Line, int) { return Round(l), 0 },
	"Settle": Settle,
}

// Z2: lines, their lists, and the spare room behind all of them are neither changed, nor looked at, nor kept; what is answered is the caller's.
func TestAllIsOnlyRead(t *testing.T) {
	for seed := range 150 {
		l, _ := someLine(seed)
		onlyRead(t, l)
	}
	onlyRead(t, begin(t, plain, sending(ordered(0, "abcd")), going(0), going(0)).l)
	onlyRead(t, closed(t, 401).l)
	onlyRead(t, api.Line{})
}

func onlyRead(t *testing.T, l api.Line) {
	t.Helper()
	for name, call := range calls {
		want, n := call(l)
		in := roomy(l)
		was := whole(in)
		got, many := call(in)
		if !same(got, want) || many != n {
			t.Fatalf("%s: with spare room %+v becomes, in %d rounds, %+v, not, in %d, %+v", name, l, many, got, n, want)
		}
		if !reflect.DeepEqual(whole(in), was) {
			t.Fatalf("%s: of what was handed in is left: %+v", name, in)
		}
		apart(t, name, []any{in}, got)
	}
}

// Z2: what was handed in may share memory with itself: what is answered does not.
func TestAnswersShareNothing(t *testing.T) {
	b := []byte{1, 11, 0, 7, 0, 3, 0, 0, 0, 'a', 'b', 'c', 'd'}
	l := begin(t, plain, sending(ordered(0, "abcd")), going(0), going(0)).l
	l.Receiver.Log = []api.Arrival{{Data: b}, {Data: b}}
	l.Receiver.Pieces = []api.Piece{{Number: 9, Chunk: api.Chunk{Tag: 9, Mid: 3, Data: b}}}
	for range 4 {
		for name, call := range calls {
			got, _ := call(l)
			apart(t, name, []any{l}, got)
		}
		l.Way = append(l.Way, api.Packet{Bytes: b})
	}
}

// Z3: lists that are nil, and lists without entries, are the same.
func TestNilIsEmpty(t *testing.T) {
	for seed := range 150 {
		l, _ := someLine(seed)
		a := deep(reflect.ValueOf(l), func(l reflect.Value) reflect.Value { return l }).Interface().(api.Line)
		b := deep(reflect.ValueOf(l), orNil).Interface().(api.Line)
		for name, call := range calls {
			x, one := call(a)
			y, two := call(b)
			if one != two || !same(x, y) {
				t.Fatalf("%s: of %+v lists without entries and nil differ", name, l)
			}
		}
	}
}

// Z1: each call answers the same each time.
func TestAnswersHangOnArguments(t *testing.T) {
	for seed := range 150 {
		l, _ := someLine(seed)
		for name, call := range calls {
			x, one := call(l)
			y, two := call(l)
			if one != two || !same(x, y) {
				t.Fatalf("%s makes of %+v: %+v, then %+v", name, l, x, y)
			}
		}
	}
}

// FuzzFair is run on its seeds by go test, and on more by go test -fuzz: rounds of lines that steps make, told by bytes, are as the chapter has them, and all comes at last.
func FuzzFair(f *testing.F) {
	f.Add([]byte{0, 0, 0, 0, 0, 0, 0}, []byte{0, 0, 0, 9, 3, 4, 1, 2, 6, 0, 0, 6, 0, 0, 12, 12, 12})
	f.Add([]byte{1, 3, 10, 1, 2, 3, 2}, []byte{1, 0, 1, 30, 0, 2, 1, 40, 10, 7, 7, 10, 5, 1, 0, 1, 2, 2, 10, 8, 8, 8, 8, 10, 3, 4, 10})
	f.Add([]byte{3, 0, 80, 1, 4, 11, 3}, []byte{2, 1, 0, 59, 5, 5, 10, 6, 2, 1, 9, 9, 2, 2, 2, 10, 8, 10, 8, 10, 8, 10, 8, 10, 8, 10, 8, 10})
	f.Fuzz(func(t *testing.T, config, b []byte) {
		told := func(l []byte) func(int) int {
			return func(below int) int {
				if len(l) == 0 {
					return 0
				}
				n := int(l[0]) % below
				l = l[1:]
				return n
			}
		}
		c := someConfig(told(config))
		l, _ := line.New(c)
		var taken []api.Message
		roll := told(b)
		mood := roll(3)
		for range min(len(b), 200) {
			x := someStep(mood, roll, c, len(l.Way))
			y, a := line.Do(l, x)
			if x.Kind == api.StepSend && a.Err == api.OK {
				taken = append(taken, x.Message)
			}
			l = y
		}
		both(t, l, nothing)
		x, _ := Settle(l)
		came(t, x, taken)
	})
}
