package ledger

import (
	"math"
	"reflect"
	"testing"

	"braidline/api"
	"braidline/line"
)

// odd are the ends of int, and numbers beside what chapters name.
var odd = []int{math.MinInt, math.MinInt + 1, -65536, -4, -1, 0, 1, 2, 3, 4, 5, 40, 200, 1000, 1001, 65536, math.MaxInt - 1, math.MaxInt}

// Z1: whatever numbers stand in steps, and in their messages, Taken is as the chapter has it.
func TestOddSteps(t *testing.T) {
	for _, a := range odd {
		for _, b := range odd {
			taken, l := holdsTaken(t, plain, []api.Step{
				{Kind: a, N: b, Message: ordered(0, "abcdefghi")}, sending(ordered(a, "jk")), {Kind: b, N: a, Message: loose(1, "l")},
				sending(api.Message{Stream: b, Life: a, Tries: b}), sending(api.Message{Life: a, Data: []byte("m")}), {Kind: api.StepSend, N: a, Message: api.Message{Tries: b, Data: []byte("n")}},
				doubling(a), dropping(b), going(a), going(b), clock,
			})
			balanced(t, taken, l)
		}
	}
}

// Z1: whatever stands in a config, Taken answers, and Play's error is what it tells.
func TestOddConfigs(t *testing.T) {
	steps := []api.Step{sending(ordered(0, "ab")), sending(loose(1, "c")), going(0), clock}
	for _, a := range odd {
		for field := range reflect.TypeFor[api.Config]().NumField() {
			c := plain
			reflect.ValueOf(&c).Elem().Field(field).SetInt(int64(a))
			holdsTaken(t, c, steps)
			c = api.Config{}
			reflect.ValueOf(&c).Elem().Field(field).SetInt(int64(a))
			holdsTaken(t, c, steps)
		}
	}
}

// Z1: as many steps as there may be, and many more.
func TestOddLengths(t *testing.T) {
	for _, n := range []int{0, 1, 199, 200, 201, 400, 100000} {
		l := make([]api.Step, n)
		for i := range l {
			l[i] = sending(ordered(0, "a"))
		}
		holdsTaken(t, plain, l)
	}
}

// Z1: whatever numbers stand in messages and arrivals, Right is as the chapter has it.
func TestOddLogs(t *testing.T) {
	for _, a := range odd {
		for _, b := range odd {
			for i := range 8 {
				one, two := api.Message{Stream: a, Ordered: i&1 == 0, Life: b, Tries: a, Data: []byte("x")}, api.Message{Stream: b, Ordered: i&2 == 0, Life: a, Data: []byte("y")}
				taken := []api.Message{one, two, one}
				log := arrivals([]api.Message{two, one, one})
				if i&4 > 0 {
					log = arrivals([]api.Message{one, one, two})
				}
				log[0].Mid, log[1].Mid, log[2].Mid = a, b, -a
				for n := range log {
					holds(t, taken, log[:n+1])
					holds(t, taken[:n+1], log)
				}
			}
		}
	}
}

// Z1: no line is too odd to be counted: what line.New answers beside an error, and lines with whatever else in them.
func TestOddLines(t *testing.T) {
	l, _ := line.New(api.Config{})
	if got := Count(l); got != [3]int{} {
		t.Errorf("of no line %v are counted", got)
	}
	for _, a := range odd {
		for _, b := range odd {
			var want [3]int
			for _, fate := range []int{a, b, a} {
				if fate >= 1 && fate <= 3 {
					want[fate-1]++
				}
			}
			l := fated(a, b, a)
			if got := Count(l); got != want {
				t.Errorf("of fates %v are %v, not %v", l.Sender.Fates, got, want)
			}
			// Of a line nothing but fates is counted.
			l.Sender.Config, l.Receiver.Config = api.Config{Streams: a, Part: b}, api.Config{Streams: b}
			l.Sender.Clock, l.Sender.Cum, l.Sender.Next, l.Sender.Mids = a, b, a, []int{a, b}
			l.Sender.Queue, l.Sender.Out = []api.Queued{{ID: a}, {ID: b}}, []api.Sent{{ID: a, State: b}}
			l.Receiver.Log, l.Way = []api.Arrival{{Stream: a, Mid: b}}, []api.Packet{{Path: a}}
			if got := Count(l); got != want {
				t.Errorf("of %+v are %v, not %v", l, got, want)
			}
		}
	}
}

// spares are what stands in spare room: were it read, more would be taken, come, and be counted.
var spares = map[reflect.Type]any{
	reflect.TypeFor[byte]():        byte('!'),
	reflect.TypeFor[int]():         1,
	reflect.TypeFor[api.Step]():    api.Step{Kind: api.StepSend, Message: api.Message{Data: []byte("!")}},
	reflect.TypeFor[api.Message](): api.Message{Data: []byte("!")},
	reflect.TypeFor[api.Arrival](): api.Arrival{Data: []byte("!!")},
	reflect.TypeFor[api.Queued]():  api.Queued{Message: api.Message{Data: []byte("!!!")}},
	reflect.TypeFor[api.Sent]():    api.Sent{State: api.Lost, Life: 1},
	reflect.TypeFor[api.Path]():    api.Path{Window: 100},
	reflect.TypeFor[api.Span]():    api.Span{From: 1, To: 9},
	reflect.TypeFor[api.Skip]():    api.Skip{Stream: 1},
	reflect.TypeFor[api.Packet]():  api.Packet{Path: 1},
	reflect.TypeFor[api.Piece]():   api.Piece{Number: 7},
}

// roomy is a copy of x whose lists have spare room, with something in it.
func roomy[T any](x T) T {
	return deep(reflect.ValueOf(x), func(l reflect.Value) reflect.Value {
		spare := reflect.ValueOf(spares[l.Type().Elem()])
		return reflect.Append(l, spare, spare, spare).Slice(0, l.Len())
	}).Interface().(T)
}

// whole is a copy of x in which spare room is none.
func whole[T any](x T) T {
	return unspare(reflect.ValueOf(x)).Interface().(T)
}

func unspare(v reflect.Value) reflect.Value {
	if v.Kind() == reflect.Slice {
		v = v.Slice(0, v.Cap())
	}
	out := reflect.New(v.Type()).Elem()
	out.Set(v)
	switch v.Kind() {
	case reflect.Struct:
		for i := range v.NumField() {
			out.Field(i).Set(unspare(v.Field(i)))
		}
	case reflect.Slice:
		out.Set(reflect.MakeSlice(v.Type(), v.Len(), v.Len()))
		for i := range v.Len() {
			out.Index(i).Set(unspare(v.Index(i)))
		}
	}
	return out
}

// memory is where the lists of v are, with their spare room.
func memory(v reflect.Value) [][2]uintptr {
	var out [][2]uintptr
	switch v.Kind() {
	case reflect.Struct:
		for i := range v.NumField() {
			out = append(out, memory(v.Field(i))...)
		}
	case reflect.Slice:
		if v.Cap() > 0 {
			out = append(out, [2]uintptr{v.Pointer(), v.Pointer() + uintptr(v.Cap())*v.Type().Elem().Size()})
		}
		for i := range v.Len() {
			out = append(out, memory(v.Index(i))...)
		}
	}
	return out
}

// apart: no two lists of the answer share memory, nor does one with what was handed in.
func apart(t *testing.T, handed, answer any) {
	t.Helper()
	ours, theirs := memory(reflect.ValueOf(answer)), memory(reflect.ValueOf(handed))
	for i, a := range ours {
		for _, b := range append(ours[i+1:len(ours):len(ours)], theirs...) {
			if a[0] < b[1] && b[0] < a[1] {
				t.Fatalf("lists of %+v share memory", answer)
			}
		}
	}
}

// Z2: steps, their messages, and the spare room behind all of them are neither changed, nor looked at, nor kept; what is answered is the caller's.
func TestStepsAreOnlyRead(t *testing.T) {
	for seed := range 200 {
		c, steps := someSteps(seed)
		want, err := Taken(c, steps)
		in := roomy(steps)
		was := whole(in)
		got, e := Taken(c, in)
		if e != err || !same(got, want) {
			t.Fatalf("of %+v with spare room are taken %+v with error %d, not %+v with error %d", steps, got, e, want, err)
		}
		apart(t, in, got)
		for i := range got {
			scribble(got[i].Data)
			got[i] = api.Message{}
		}
		if !reflect.DeepEqual(whole(in), was) {
			t.Fatalf("of what was handed in is left: %+v", in)
		}
		for i := range in {
			scribble(in[i].Message.Data)
		}
		if again, e := Taken(c, steps); e != err || !same(again, want) {
			t.Fatalf("of %+v are taken %+v, then %+v", steps, want, again)
		}
	}
}

// scribble changes b, its spare room too.
func scribble(b []byte) {
	b = b[:cap(b)]
	for i := range b {
		b[i] ^= 0x55
	}
}

// Z2: whoever handed steps in may change them: what was answered stays as it was.
func TestTakenIsTheCallers(t *testing.T) {
	for seed := range 100 {
		c, steps := someSteps(seed)
		want, _, _ := takes(c, deep(reflect.ValueOf(steps), orNil).Interface().([]api.Step))
		got, _ := Taken(c, steps)
		for i := range steps {
			scribble(steps[i].Message.Data)
			steps[i].Message.Stream++
		}
		if !same(got, want) {
			t.Fatalf("of what was taken is left %+v, not %+v", got, want)
		}
	}
}

// Z2: steps may share memory with themselves: what is answered does not.
func TestAnswersShareNothing(t *testing.T) {
	b := []byte("abcdefgh")
	steps := []api.Step{
		sending(api.Message{Data: b}), sending(api.Message{Data: b}), sending(api.Message{Stream: 1, Data: b[2:5]}), sending(api.Message{Data: b[:1]}),
	}
	got, err := Taken(plain, steps)
	if err != api.OK || len(got) != 4 {
		t.Fatalf("%+v are taken, with error %d", got, err)
	}
	apart(t, steps, got)
}

// Z2: lines, messages and logs, and the spare room behind them, are neither changed, nor looked at.
func TestLogsAreOnlyRead(t *testing.T) {
	for seed := range 200 {
		c, steps := someSteps(seed)
		taken, err, l := takes(c, steps)
		if err != api.OK {
			t.Fatalf("%+v has error %d", c, err)
		}
		in := roomy(l)
		was := whole(in)
		if got, want := Count(in), Count(l); got != want {
			t.Fatalf("with spare room %v are counted, not %v", got, want)
		}
		if !reflect.DeepEqual(whole(in), was) {
			t.Fatalf("of the line is left: %+v", in)
		}
		log := someLog(dice(seed), taken)
		ms, as := roomy(taken), roomy(log)
		msWas, asWas := whole(ms), whole(as)
		if got, want := Right(ms, as), Right(taken, log); got != want {
			t.Fatalf("of %+v %+v come: with spare room that is %v, not %v", taken, log, got, want)
		}
		if !reflect.DeepEqual(whole(ms), msWas) || !reflect.DeepEqual(whole(as), asWas) {
			t.Fatalf("of what was handed in is left: %+v and %+v", ms, as)
		}
	}
}

// Z3: lists that are nil, and lists without entries, are the same.
func TestNilIsEmpty(t *testing.T) {
	for _, l := range [][]api.Step{nil, {}} {
		if got, err := Taken(plain, l); err != api.OK || len(got) != 0 {
			t.Errorf("of no steps are taken %+v with error %d", got, err)
		}
	}
	for _, data := range [][]byte{nil, {}} {
		isTaken(t, plain, []api.Step{sending(api.Message{Data: data}), sending(ordered(0, "a"))}, ordered(0, "a"))
		for _, other := range [][]byte{nil, {}} {
			for i := range 4 {
				log := []api.Arrival{{Ordered: i&1 > 0, Data: other}}
				if got := Right([]api.Message{{Ordered: i&2 > 0, Data: data}}, log); got != (i == 0 || i == 3) {
					t.Errorf("%d: without data: that is %v", i, got)
				}
			}
		}
	}
	for _, taken := range [][]api.Message{nil, {}} {
		for _, log := range [][]api.Arrival{nil, {}} {
			if !Right(taken, log) {
				t.Error("nothing comes of nothing, and that is not right")
			}
		}
		if Right(taken, []api.Arrival{{}}) {
			t.Error("something comes of nothing, and that is right")
		}
	}
	if Count(fated()) != Count(api.Line{Sender: api.Sender{Fates: []int{}}}) {
		t.Error("without fates something is counted")
	}
}

// Z5: fields that a kind of step has not mean nothing.
func TestUnnamedFieldsMeanNothing(t *testing.T) {
	for seed := range 100 {
		c, steps := someSteps(seed)
		want, _ := Taken(c, steps)
		for i := range steps {
			if steps[i].Kind == api.StepSend {
				steps[i].N = 7 - seed
			} else {
				steps[i].Message = ordered(seed%5, "nothing")
			}
		}
		isTaken(t, c, steps, want...)
	}
}

// Z1: each call answers the same each time.
func TestAnswersHangOnArguments(t *testing.T) {
	for seed := range 100 {
		c, steps := someSteps(seed)
		taken, l := holdsTaken(t, c, steps)
		log := someLog(dice(seed), taken)
		for range 3 {
			holdsTaken(t, c, steps)
			if Count(l) != Count(line.Own(l)) {
				t.Fatal("of one line it is counted twice, and otherwise")
			}
			holds(t, taken, log)
		}
	}
}

// FuzzLedger is run on its seeds by go test, and on more by go test -fuzz: of steps, told by bytes, and of what comes of them, all calls are as the chapter has them.
func FuzzLedger(f *testing.F) {
	f.Add([]byte{0, 0, 0, 0, 0, 0, 0}, []byte{0, 0, 0, 9, 3, 4, 1, 2, 6, 0, 0, 6, 0, 0, 12, 12, 12}, []byte{})
	f.Add([]byte{1, 3, 10, 1, 2, 3, 2}, []byte{1, 0, 1, 30, 0, 2, 1, 40, 10, 7, 7, 10, 5, 1, 0, 1, 2, 2, 10, 8, 8, 8, 8, 10, 3, 4, 10}, []byte{0, 0, 0, 2, 0, 1, 3})
	f.Add([]byte{3, 0, 80, 1, 4, 11, 3}, []byte{2, 1, 0, 59, 5, 5, 10, 6, 2, 1, 9, 9, 2, 2, 2, 10, 8, 10, 8, 10, 8, 10, 8, 10, 8, 10, 8, 10}, []byte{1, 1, 1, 1, 3, 0, 1, 3})
	f.Fuzz(func(t *testing.T, config, b, changes []byte) {
		told := func(l []byte) func(int) int {
			return func(below int) int {
				if len(l) == 0 {
					return 0
				}
				n := int(l[0]) % below
				l = l[1:]
				return n
			}
		}
		c := someConfig(told(config))
		roll := told(b)
		mood := roll(3)
		var steps []api.Step
		for range min(len(b), 200) {
			steps = append(steps, someStep(mood, roll, c))
		}
		taken, l := holdsTaken(t, c, steps)
		balanced(t, taken, l)
		holds(t, taken, someLog(told(changes), taken))
	})
}
