package ledger

import (
	"fmt"
	"math"
	"reflect"
	"slices"
	"strings"
	"testing"

	"braidline/api"
	"braidline/line"
)

// plain is a config of two streams that take turns by parts of four bytes, and of one path.
var plain = api.Config{Streams: 2, Part: 4, Packet: 50, Paths: 1, Turns: api.TurnsParts, Waiting: 4, First: 7}

// ordered is a message of stream; loose is one that waits for no other one.
func ordered(stream int, text string) api.Message {
	return api.Message{Stream: stream, Ordered: true, Data: []byte(text)}
}

func loose(stream int, text string) api.Message {
	return api.Message{Stream: stream, Data: []byte(text)}
}

// brief is m with that Life.
func brief(m api.Message, life int) api.Message {
	m.Life = life
	return m
}

func sending(m api.Message) api.Step { return api.Step{Kind: api.StepSend, Message: m} }
func going(n int) api.Step           { return api.Step{Kind: api.StepGo, N: n} }
func dropping(n int) api.Step        { return api.Step{Kind: api.StepDrop, N: n} }
func doubling(n int) api.Step        { return api.Step{Kind: api.StepTwice, N: n} }

var clock = api.Step{Kind: api.StepClock}

// messages are told in words: 0/a is an ordered one of stream 0, and 0~a one that is not.
func messages(words string) []api.Message {
	var out []api.Message
	for _, w := range strings.Fields(words) {
		var m api.Message
		head, text, ok := strings.Cut(w, "/")
		if m.Ordered = ok; !ok {
			head, text, _ = strings.Cut(w, "~")
		}
		fmt.Sscan(head, &m.Stream)
		m.Data = []byte(text)
		out = append(out, m)
	}
	return out
}

// arrivals of messages.
func arrivals(l []api.Message) []api.Arrival {
	var out []api.Arrival
	for _, m := range l {
		out = append(out, api.Arrival{Stream: m.Stream, Ordered: m.Ordered, Data: slices.Clone(m.Data)})
	}
	return out
}

// same holds values against each other; nil and a list without entries are the same.
func same(a, b any) bool {
	return reflect.DeepEqual(deep(reflect.ValueOf(a), orNil).Interface(), deep(reflect.ValueOf(b), orNil).Interface())
}

// deep is a copy of v, which shares no list with it: each list is what list makes of the copies of its entries.
func deep(v reflect.Value, list func(reflect.Value) reflect.Value) reflect.Value {
	out := reflect.New(v.Type()).Elem()
	out.Set(v)
	switch v.Kind() {
	case reflect.Struct:
		for i := range v.NumField() {
			out.Field(i).Set(deep(v.Field(i), list))
		}
	case reflect.Slice:
		out.Set(reflect.MakeSlice(v.Type(), v.Len(), v.Len()))
		for i := range v.Len() {
			out.Index(i).Set(deep(v.Index(i), list))
		}
		out.Set(list(out))
	}
	return out
}

func orNil(l reflect.Value) reflect.Value {
	if l.Len() == 0 {
		return reflect.Zero(l.Type())
	}
	return l
}

// isTaken: of these steps these messages are taken.
func isTaken(t *testing.T, c api.Config, l []api.Step, want ...api.Message) {
	t.Helper()
	got, err := Taken(c, l)
	if err != api.OK || !same(got, want) {
		t.Errorf("of %+v are taken %+v with error %d, not %+v", l, got, err, want)
	}
}

// Example 12 of the document: one message that was taken waits; none is gone.
func TestOneWaits(t *testing.T) {
	hello := []api.Step{sending(ordered(0, "hello"))}
	isTaken(t, plain, hello, ordered(0, "hello"))
	l, _, _ := line.Play(plain, hello)
	if got := Count(l); got != [3]int{1, 0, 0} {
		t.Errorf("%v of them wait, were delivered, and are gone", got)
	}
	if !Right(messages("0/hello"), l.Receiver.Log) {
		t.Error("nothing came, and that is not right")
	}
}

// L1: Taken are the messages of StepSend steps, as they stand there, in turn.
func TestTaken(t *testing.T) {
	isTaken(t, plain, nil)
	isTaken(t, plain, []api.Step{clock, clock})
	full := api.Message{Stream: 1, Ordered: true, Life: 1000, Tries: 999, Data: []byte("all of it")}
	isTaken(t, plain, []api.Step{sending(full)}, full)
	isTaken(t, plain,
		[]api.Step{sending(ordered(1, "z")), sending(loose(0, "y")), going(0), sending(ordered(0, "x")), clock, sending(ordered(1, "z"))},
		ordered(1, "z"), loose(0, "y"), ordered(0, "x"), ordered(1, "z"))
}

// L1: what became of a message afterwards means nothing.
func TestTakenIsNotDelivered(t *testing.T) {
	m := brief(ordered(0, "abcd"), 1)
	for _, after := range [][]api.Step{{dropping(0), clock, clock}, {going(0), dropping(0)}, {going(0), going(0)}, {doubling(0), clock}} {
		isTaken(t, plain, append([]api.Step{sending(m)}, after...), m)
	}
}

// L1: messages of other steps are not taken, whether these had an error or not.
func TestTakenOfOtherSteps(t *testing.T) {
	m := ordered(0, "other")
	var l []api.Step
	for _, kind := range []int{api.StepGo, api.StepDrop, api.StepTwice, api.StepClock, 0, 6, -1, math.MaxInt} {
		l = append(l, api.Step{Kind: kind, Message: m}, api.Step{Kind: kind, N: 9, Message: m})
	}
	isTaken(t, plain, l)
	l = append([]api.Step{sending(ordered(0, "first"))}, append(l, sending(loose(1, "last")))...)
	isTaken(t, plain, l, ordered(0, "first"), loose(1, "last"))
}

// L1: messages whose step had an error are not; those behind them are.
func TestTakenWithoutWhatIsRefused(t *testing.T) {
	a, b := ordered(0, "a"), ordered(1, "b")
	for _, m := range []api.Message{
		ordered(-1, "c"), ordered(2, "c"), brief(a, -1), brief(a, 1001), {Tries: -1, Data: []byte("c")}, {Tries: 1001, Data: []byte("c")},
		ordered(0, ""), ordered(0, strings.Repeat("c", 61)), {},
	} {
		isTaken(t, plain, []api.Step{sending(m)})
		isTaken(t, plain, []api.Step{sending(a), sending(m), sending(b)}, a, b)
	}
	for _, m := range []api.Message{ordered(1, strings.Repeat("c", 60)), brief(a, 1000), brief(a, 0), {Tries: 1000, Data: []byte("c")}} {
		isTaken(t, plain, []api.Step{sending(a), sending(m), sending(b)}, a, m, b)
	}
}

// L1: a message for which there is no room is not taken; the same one is, when there is.
func TestTakenWithoutRoom(t *testing.T) {
	c := plain
	c.Waiting, c.Part = 1, 1
	long, b, d := ordered(0, strings.Repeat("a", 40)), ordered(0, "b"), ordered(1, "d")
	isTaken(t, c, []api.Step{sending(long), sending(b), sending(d)}, long)
	l := []api.Step{sending(brief(long, 1)), sending(b), clock, sending(b), sending(d)}
	isTaken(t, c, l, brief(long, 1), b, d)
	_, answers, _ := line.Play(c, l)
	if answers[1].Err != api.ErrFull || answers[3].Err != api.OK {
		t.Errorf("the answers are %+v", answers)
	}
}

// L1, Z4: Play's errors, and nothing beside them.
func TestTakenErrors(t *testing.T) {
	change := func(f func(*api.Config)) api.Config {
		c := plain
		f(&c)
		return c
	}
	wrong := change(func(c *api.Config) { c.Streams = 5 })
	kind := change(func(c *api.Config) { c.Turns = 6 })
	some := []api.Step{sending(ordered(0, "a")), sending(ordered(0, "b"))}
	many := slices.Repeat(some, 101)
	for _, x := range []struct {
		c    api.Config
		l    []api.Step
		want api.Errno
	}{
		{api.Config{}, some, api.ErrRange}, {wrong, some, api.ErrRange}, {wrong, nil, api.ErrRange}, {kind, some, api.ErrKind},
		{change(func(c *api.Config) { c.Waiting = 13 }), some, api.ErrRange}, {change(func(c *api.Config) { c.First = -1 }), some, api.ErrRange},
		{plain, many, api.ErrMany}, {plain, many[:201], api.ErrMany}, {plain, make([]api.Step, 201), api.ErrMany},
		{wrong, many, api.ErrRange}, {kind, many, api.ErrKind},
	} {
		got, err := Taken(x.c, x.l)
		if err != x.want || len(got) != 0 {
			t.Errorf("of %d steps with %+v are taken %+v with error %d, not %d", len(x.l), x.c, got, err, x.want)
		}
	}
	if got, err := Taken(plain, many[:200]); err != api.OK || len(got) == 0 {
		t.Errorf("of 200 steps are taken %+v with error %d", got, err)
	}
}

// L1: as many steps as may be, each of which sends.
func TestTakenOfManySteps(t *testing.T) {
	c := plain
	c.Part, c.Packet = 16, 120
	var l []api.Step
	var want []api.Message
	for i := range 200 / 4 {
		m := ordered(i%2, fmt.Sprint(i))
		l = append(l, sending(m), going(0), going(0), sending(loose(2, "refused")))
		want = append(want, m)
	}
	isTaken(t, c, l, want...)
}

// fated is a line whose messages have these fates.
func fated(fates ...int) api.Line { return api.Line{Sender: api.Sender{Fates: fates}} }

// L1: Count is of fates, by what they are; others count nowhere.
func TestCount(t *testing.T) {
	const w, d, g = api.Waits, api.Delivered, api.Gone
	for _, x := range []struct {
		fates []int
		want  [3]int
	}{
		{nil, [3]int{}}, {[]int{w}, [3]int{1, 0, 0}}, {[]int{d}, [3]int{0, 1, 0}}, {[]int{g}, [3]int{0, 0, 1}},
		{[]int{w, d, g}, [3]int{1, 1, 1}}, {[]int{g, d, g, g, d, w}, [3]int{1, 2, 3}}, {[]int{d, w, d, d, w, w, w}, [3]int{4, 3, 0}},
		{[]int{0, 4, -1, math.MinInt, math.MaxInt}, [3]int{}}, {[]int{0, w, 4, d, d, -1, g, g, g}, [3]int{1, 2, 3}},
		{slices.Repeat([]int{w, g, d, g}, 5000), [3]int{5000, 5000, 10000}},
	} {
		if got := Count(fated(x.fates...)); got != x.want {
			t.Errorf("of fates %v are %v, not %v", x.fates, got, x.want)
		}
	}
}

// L1: what a line comes to, is counted.
func TestCountOfLines(t *testing.T) {
	a, b := brief(ordered(0, "abcd"), 2), ordered(1, "ef")
	for _, x := range []struct {
		steps []api.Step
		want  [3]int
	}{
		{nil, [3]int{}},
		{[]api.Step{sending(a), sending(ordered(9, "refused"))}, [3]int{1, 0, 0}},
		{[]api.Step{sending(a), going(0)}, [3]int{1, 0, 0}}, // it has come, and was not told of
		{[]api.Step{sending(a), going(0), going(0)}, [3]int{0, 1, 0}},
		{[]api.Step{sending(a), dropping(0), clock, clock}, [3]int{0, 0, 1}},
		{[]api.Step{sending(b), going(0), going(0), sending(a), dropping(0), clock, clock, sending(b)}, [3]int{1, 1, 1}},
	} {
		l, _, _ := line.Play(plain, x.steps)
		if got := Count(l); got != x.want {
			t.Errorf("after %+v fates are %v, and are counted as %v", x.steps, l.Sender.Fates, got)
		}
	}
}

// isRight: whether it is right, that of those messages these come.
func isRight(t *testing.T, taken, log string, want bool) {
	t.Helper()
	if got := Right(messages(taken), arrivals(messages(log))); got != want {
		t.Errorf("of %q %q come: that is %v, not %v", taken, log, got, want)
	}
}

// L1: what comes was taken, and is, in each of its fields, as it was.
func TestRightIsWhatWasTaken(t *testing.T) {
	isRight(t, "", "", true)
	isRight(t, "0/a 1~b", "", true)
	isRight(t, "0/a", "0/a", true)
	isRight(t, "0~a", "0~a", true)
	isRight(t, "", "0/a", false)
	isRight(t, "", "0~a", false)
	isRight(t, "0/a", "1/a", false)
	isRight(t, "0~a", "1~a", false)
	isRight(t, "0/a", "0~a", false)
	isRight(t, "0~a", "0/a", false)
	isRight(t, "0/a", "0/b", false)
	isRight(t, "0~a", "0~b", false)
	isRight(t, "0~ab", "0~a", false)
	isRight(t, "0~a", "0~ab", false)
	isRight(t, "0~ab", "0~b", false)
	isRight(t, "0~a", "0~", false)
	isRight(t, "0~", "0~", true)
	isRight(t, "0/", "0/", true)
	isRight(t, "1~1a 11~a", "11~a 1~1a", true)
	isRight(t, "1~1a", "11~a", false)
	isRight(t, "0/a 0/b 1~c", "0/a 0/b 2~d 1~c", false)
}

// L1: Data are bytes, whatever stands in them.
func TestRightOfBytes(t *testing.T) {
	datas := [][]byte{{}, {0}, {0, 0}, {255}, {254}, {0xef, 0xbf, 0xbd}, {'a', 0}, {'a'}, []byte("A"), []byte("é"), {'e', 0xcc, 0x81}}
	for _, orderly := range []bool{true, false} {
		for i, a := range datas {
			for j, b := range datas {
				got := Right([]api.Message{{Ordered: orderly, Data: a}}, []api.Arrival{{Ordered: orderly, Data: b}})
				if got != (i == j) {
					t.Errorf("%v was taken, %v comes: that is %v", a, b, got)
				}
			}
		}
	}
}

// L1: as often as it was taken, and no more.
func TestRightIsNotTooOften(t *testing.T) {
	isRight(t, "0~a", "0~a 0~a", false)
	isRight(t, "0/a", "0/a 0/a", false)
	isRight(t, "0~a 0~a", "0~a 0~a", true)
	isRight(t, "0/a 0/a", "0/a 0/a", true)
	isRight(t, "0~a 0~a", "0~a", true)
	isRight(t, "0~a 0~a", "0~a 0~a 0~a", false)
	isRight(t, "0~a 0/a", "0~a 0~a", false)
	isRight(t, "0/a 0~a", "0/a 0/a", false)
	isRight(t, "0~a 1~a", "0~a 0~a", false)
	isRight(t, "0~a 0~b", "0~a 0~b 0~a", false)
	isRight(t, "0~a 0~b 0~a", "0~a 0~b 0~a", true)
	isRight(t, "0/a 1/a 2/a 3/a", "3/a 2/a 1/a 0/a", true)
	isRight(t, "0/a 1/a 2/a 3/a", "3/a 2/a 1/a 0/a 3/a", false)
}

// L1: Ordered ones come in their stream's order; others may have been gone without.
func TestRightIsInOrder(t *testing.T) {
	isRight(t, "0/a 0/b 0/c", "0/a 0/b 0/c", true)
	isRight(t, "0/a 0/b 0/c", "0/a 0/c", true)
	isRight(t, "0/a 0/b 0/c", "0/c", true)
	isRight(t, "0/a 0/b 0/c", "0/b 0/a", false)
	isRight(t, "0/a 0/b 0/c", "0/a 0/c 0/b", false)
	isRight(t, "0/a 0/b 0/a", "0/a 0/a", true)
	isRight(t, "0/a 0/b 0/a", "0/b 0/a", true)
	isRight(t, "0/a 0/b 0/a", "0/a 0/b", true)
	isRight(t, "0/a 0/b 0/a", "0/a 0/a 0/b", false)
	isRight(t, "0/a 0/b 0/a", "0/b 0/a 0/a", false)
	isRight(t, "0/a 0/b 0/a 0/b", "0/b 0/b", true)
	isRight(t, "0/a 0/b 0/a 0/b", "0/b 0/a 0/b", true)
	isRight(t, "0/a 0/b 0/a 0/b", "0/b 0/b 0/a", false)
	isRight(t, "0/a 0/a 0/b 0/b 0/c", "0/a 0/b 0/b 0/c", true)
}

// L1: the order is one of each stream, from 0 to below MaxStreams.
func TestRightByStreams(t *testing.T) {
	for s := range api.MaxStreams {
		isRight(t, fmt.Sprintf("%d/a %d/b", s, s), fmt.Sprintf("%d/a %d/b", s, s), true)
		isRight(t, fmt.Sprintf("%d/a %d/b", s, s), fmt.Sprintf("%d/b %d/a", s, s), false)
		other := (s + 1) % api.MaxStreams
		isRight(t, fmt.Sprintf("%d/a %d/b", s, other), fmt.Sprintf("%d/b %d/a", other, s), true)
		isRight(t, fmt.Sprintf("%d/a %d/c %d/b %d/d", s, other, s, other), fmt.Sprintf("%d/c %d/d %d/a %d/b", other, other, s, s), true)
		isRight(t, fmt.Sprintf("%d/a %d/c %d/b %d/d", s, other, s, other), fmt.Sprintf("%d/c %d/b %d/d %d/a", other, s, other, s), false)
	}
}

// L1: what is not Ordered comes in whatever order, and so does what is of no such stream; but it was taken as often.
func TestRightWithoutOrder(t *testing.T) {
	for _, head := range []string{"0~", "3~", "4~", "-1~", "4/", "5/", "-1/", "-4/", "7/", "9223372036854775807/", "-9223372036854775808/"} {
		a, b := head+"a ", head+"b "
		isRight(t, a+b, a+b, true)
		isRight(t, a+b, b+a, true)
		isRight(t, a+b+a, a+a+b, true)
		isRight(t, a+b+a, b+a+a, true)
		isRight(t, a+b, b, true)
		isRight(t, a+b, b+b, false)
		isRight(t, a+b, a+b+a, false)
		isRight(t, "0/c "+a+"0/d "+b, b+"0/c "+a+"0/d", true)
		isRight(t, "0/c "+a+"0/d "+b, b+"0/d "+a+"0/c", false)
	}
	isRight(t, "0/a 0~b 0/c", "0~b 0/a 0/c", true)
	isRight(t, "0/a 0~b 0/c", "0/a 0/c 0~b", true)
	isRight(t, "0/b 0~a", "0~a 0/b", true)
}

// L1: a message's terms, and an arrival's Mid, have no part in whether they are the same.
func TestRightOfOtherFields(t *testing.T) {
	taken := []api.Message{{Ordered: true, Life: 3, Tries: 1, Data: []byte("a")}, {Ordered: true, Life: 9, Data: []byte("b")}, {Tries: 7, Data: []byte("c")}}
	log := func(a, b, c int) []api.Arrival {
		return []api.Arrival{{Ordered: true, Mid: a, Data: []byte("a")}, {Ordered: true, Mid: b, Data: []byte("b")}, {Mid: c, Data: []byte("c")}}
	}
	for _, x := range [][3]int{{}, {1, 0, 0}, {0, 1, 0}, {5, 5, 5}, {9, -9, math.MaxInt}, {math.MinInt, 65536, -1}} {
		l := log(x[0], x[1], x[2])
		if !Right(taken, l) {
			t.Errorf("%+v come, and that is not right", l)
		}
		if l = append(l, api.Arrival{Mid: x[2] + 1, Data: []byte("c")}); Right(taken, l) {
			t.Errorf("%+v come, and that is right", l)
		}
		l = log(x[0], x[1], x[2])
		if l[0], l[1] = l[1], l[0]; Right(taken, l) {
			t.Errorf("%+v come, and that is right", l)
		}
	}
}

// Z1: of many messages it is told soon.
func TestRightOfMany(t *testing.T) {
	const many = 200000
	taken := make([]api.Message, many)
	for i := range taken {
		taken[i] = api.Message{Stream: i % 5, Ordered: i%3 > 0, Data: []byte(fmt.Sprint(i))}
	}
	log := arrivals(taken)
	if !Right(taken, log) || !Right(taken, log[many/2:]) {
		t.Error("all come as they were taken, and that is not right")
	}
	// Two ordered ones of stream 0 change their places.
	if log[10], log[many-10] = log[many-10], log[10]; Right(taken, log) {
		t.Errorf("%+v comes ahead of most of its stream, and that is right", log[10])
	}
}
