package sender

import (
	"fmt"
	"reflect"
	"strings"
	"testing"

	"braidline/api"
)

// I2: a message in the queue is gone when it has waited for its Life, not ahead of that; without Life never.
func TestGoneFromTheQueue(t *testing.T) {
	c := plain
	c.Turns = api.TurnsFirst
	r := begin(t, c, ordered(0, strings.Repeat("x", 60)), brief(ordered(1, "a"), 1), brief(ordered(1, "b"), 2), ordered(1, "c"))
	r.pump("0 7=0/0.0:xxxx 8=0/0.1:xxxx")
	r.hear(sack(6, 0)) // no room: nothing more goes
	r.pump()
	r.fates(1, 1, 1, 1)
	is(t, "forward, when nothing is gone", r.s.Forward, false)
	r.ticks(1)
	r.pump()
	r.fates(1, 3, 1, 1)
	is(t, "forward, when one is gone", r.s.Forward, true) // nothing of it was handed on, so none goes
	is(t, "queue", ids(r.s.Queue), "[0 2 3]")
	is(t, "next", r.s.Next, 9)
	r.out("7:0F 8:0F")
	is(t, "mids", fmt.Sprint(r.s.Mids), "[1 0 0 0]")
	r.ticks(1)
	r.pump()
	r.fates(1, 3, 3, 1)
	is(t, "queue", ids(r.s.Queue), "[0 3]")
	is(t, "hand", r.s.Sched.Hand, 0) // another one was in hand
	r.ticks(2000)
	r.s, _ = Pump(r.s)
	r.fates(1, 3, 3, 1)
	// Life is counted from when the message came.
	r = begin(t, c)
	r.ticks(5)
	r.send(brief(ordered(0, "a"), 2))
	r.ticks(1)
	r.s.Room, r.s.Paths[0].Window = 0, 0 // it is not to go
	r.pump()
	r.fates(1)
	r.ticks(1)
	r.pump()
	r.fates(3)
	// One Pump is enough for several, and for those that waited for longer.
	r = begin(t, c, brief(loose(0, "a"), 1), brief(loose(0, "b"), 9), loose(1, "c"), brief(loose(1, "d"), 3))
	r.s.Paths[0].Window = 0
	r.ticks(8)
	r.pump()
	r.fates(3, 1, 1, 3)
	is(t, "queue", ids(r.s.Queue), "[1 2]")
}

func ids(q []api.Queued) string {
	l := []int{}
	for _, m := range q {
		l = append(l, m.ID)
	}
	return fmt.Sprint(l)
}

// I2: of a message that is gone, and is still in the queue, a part more is out, if some were handed on; it is Given, it has no bytes, and never goes.
func TestPartMore(t *testing.T) {
	c := plain
	c.Turns = api.TurnsRound
	for _, m := range []api.Message{ordered(1, "abcdefghijkl"), loose(1, "abcdefghijkl")} {
		r := begin(t, c, brief(m, 2))
		r.s.Mids = []int{0, 65537, 0, 65537}
		mark := "~"
		if m.Ordered {
			mark = "/"
		}
		r.pump("0 7=1" + mark + "1.0:abcd 8=1" + mark + "1.1:efgh")
		is(t, "hand", r.s.Sched.Hand, 0)
		r.ticks(2)
		r.pump("0 >9,1" + mark + "1")
		r.fates(3)
		r.out("7:0G 8:0G 9:0G*0")
		is(t, "hand", r.s.Sched.Hand, -1)
		is(t, "queue", ids(r.s.Queue), "[]")
		is(t, "next", r.s.Next, 10)
		want := api.Sent{Number: 9, State: api.Given, Chunk: api.Chunk{Stream: 1, Mid: 1, Part: 2, Last: true, Ordered: m.Ordered}}
		if got := r.s.Out[2]; !reflect.DeepEqual(got, want) {
			t.Errorf("the part more is %+v", got)
		}
		r.path(0, api.Path{Window: 8, Slow: 128, Alarm: 3, Wait: 3}) // of Given parts none is on it
		is(t, "had", fmt.Sprint(r.s.Sched), "{1 -1 [0 8]}")
		r.hear(sack(9, 400))
		r.pump()
		is(t, "calm", Calm(r.s), true)
		r.fates(3)
	}
}

// I2: should all have come that went, the other side still learns of it.
func TestPartMoreWhenAllHaveCome(t *testing.T) {
	for _, m := range []api.Message{ordered(0, "abcdefghijkl"), loose(0, "abcdefghijkl")} {
		c := plain
		r := begin(t, c, brief(m, 1))
		r.s.Paths[0].Window = 4
		r.s, _ = Pump(r.s)
		r.hear(sack(7, 400))
		is(t, "out", len(r.s.Out), 0)
		r.ticks(1)
		mark := map[bool]string{true: "/", false: "~"}[m.Ordered]
		r.pump("0 >8,0" + mark + "0")
		r.out("8:0G*0")
		r.path(0, api.Path{Window: 8, Slow: 128, Alarm: 4, Wait: 3}) // nothing is on it, but the forward is waited for
		r.pump()
		r.path(0, api.Path{Window: 8, Slow: 128, Alarm: 4, Wait: 3})
		r.ticks(2)
		r.pump()
		r.ticks(1)
		r.path(0, api.Path{Window: 4, Slow: 16, Errors: 1, Wait: 6})
		r.pump("0 >8,0" + mark + "0")
		r.path(0, api.Path{Window: 4, Slow: 16, Errors: 1, Alarm: 10, Wait: 6})
		r.hear(sack(8, 400))
		r.path(0, api.Path{Window: 4, Slow: 16, Errors: 1, Alarm: 10, Wait: 6}) // no bytes have come of it
		r.pump()
		r.path(0, api.Path{Window: 4, Slow: 16, Errors: 1, Wait: 6})
		is(t, "calm", Calm(r.s), true)
	}
}

// I2: a message that is out is gone when its Life is over, if a part of it has not Arrived; and only once.
func TestGoneFromOut(t *testing.T) {
	c := plain
	c.Streams, c.Turns = 4, api.TurnsFirst
	r := begin(t, c, brief(loose(3, "ab"), 2), brief(loose(2, "cd"), 2), brief(ordered(1, "ef"), 3), loose(0, "gh"))
	r.pump("0 7=3~0.0:ab. 8=2~0.0:cd. 9=1/0.0:ef. 10=0~0.0:gh.")
	r.hear(sack(6, 400, at(2)))
	r.fates(1, 2, 1, 1)
	r.ticks(1)
	r.pump()
	r.fates(1, 2, 1, 1)
	r.ticks(1)
	r.pump("0 >8,3~0")
	r.fates(3, 2, 1, 1)
	r.out("7:0G-1 8:1A 9:2F 10:3F")
	is(t, "next", r.s.Next, 11) // it was not in the queue any more: there is no part more
	is(t, "flight", r.s.Paths[0].Flight, 4)
	is(t, "forward", r.s.Forward, false)
	r.pump() // told once
	r.ticks(1)
	r.out("7:0G-1 8:1A 9:2L 10:3L")
	r.pump("0 >9,3~0,1/0 10=0~0.0:gh.") // Lost ones are gone, too
	r.fates(3, 2, 3, 1)
	r.out("7:0G-1 8:1A 9:2G 10:3F*2")
	// A part has Arrived, another one of the same message has not.
	r = begin(t, c, brief(loose(0, "abcdefgh"), 1))
	r.pump("0 7=0~0.0:abcd 8=0~0.1:efgh.")
	r.hear(sack(6, 400, at(2)))
	r.ticks(1)
	r.pump("0 >8,0~0")
	r.out("7:0G-1 8:0A")
	r.fates(3)
	// All that is out of it has Arrived, but it is in the queue.
	r = begin(t, c, loose(1, "a"), brief(loose(0, "bcdefghijk"), 5))
	r.pump("0 7=1~0.0:a. 8=0~0.0:bcde 9=0~0.1:fghi")
	r.hear(sack(6, 0, api.Span{From: 2, To: 3}))
	r.out("7:0F-1 8:1A 9:1A")
	r.fates(1, 1)
	r.ticks(4)
	r.pump("0 7=1~0.0:a.")
	r.fates(1, 1)
	r.ticks(1)
	r.pump() // ahead of it stands what has not come
	r.fates(1, 3)
	r.out("7:0F*2 8:1A 9:1A 10:1G*0")
	is(t, "forward", r.s.Forward, true)
	r.hear(sack(7, 400, api.Span{From: 1, To: 2}))
	r.pump("0 >10,0~0")
	is(t, "forward", r.s.Forward, false)
}

// I2: a message is gone when a part of it is Lost that was sent more often than Tries; not ahead of that, and not while it is on the way.
func TestGoneWhenTried(t *testing.T) {
	c := plain
	c.Turns = api.TurnsFirst
	for tries := 1; tries <= 3; tries++ {
		r := begin(t, c, tried(loose(0, "abc"), tries))
		r.pump("0 7=0~0.0:abc.")
		for range tries {
			r.ticks(30)
			r.out(partsOf([]api.Sent{{Number: 7, State: api.Lost, Path: r.s.Out[0].Path, Times: r.s.Out[0].Times}}))
			r.fates(1)
			r.s, _ = Pump(r.s)
			r.fates(1)
			is(t, "state", r.s.Out[0].State, api.InFlight)
		}
		is(t, "times", r.s.Out[0].Times, tries+1)
		r.pump() // on the way it may still come
		r.fates(1)
		r.ticks(30)
		r.fates(1)
		_, l := Pump(r.s)
		is(t, "packets", strings.Join(packetsOf(l), " "), fmt.Sprintf("%d >7,0~0", tries/3)) // at four errors another path is chosen
		r.s, _ = Pump(r.s)
		r.fates(3)
		is(t, "next", r.s.Next, 8)
		r.hear(sack(7, 400))
		r.fates(3)
		is(t, "calm", Calm(r.s), true)
	}
	r := begin(t, c, loose(0, "abc")) // Tries 0 is for ever
	for range 50 {
		r.s, _ = Pump(r.s)
		r.ticks(24)
	}
	r.fates(1)
	is(t, "times", r.s.Out[0].Times, 50)
	// In the queue, some parts of it handed on.
	r = begin(t, c, tried(ordered(0, "abcdefghijklmnop"), 1), loose(1, "qrst"))
	r.pump("0 7=0/0.0:abcd 8=0/0.1:efgh")
	r.ticks(3)
	r.pump("0 7=0/0.0:abcd")
	r.ticks(6)
	r.out("7:0L*2 8:0L")
	r.pump("0 >9,0/0 10=1~0.0:qrst.")
	r.out("7:0G*2 8:0G 9:0G*0 10:1F")
	r.fates(3, 1)
	is(t, "queue", ids(r.s.Queue), "[]")
}

// I2: Hand is -1, if the message that is gone was that; else it stays.
func TestHandOfWhatIsGone(t *testing.T) {
	c := plain
	c.Turns = api.TurnsRound
	r := begin(t, c, ordered(0, strings.Repeat("x", 60)), brief(ordered(1, "y"), 1))
	r.pump("0 7=0/0.0:xxxx 8=0/0.1:xxxx")
	r.ticks(1)
	r.pump()
	r.fates(1, 3)
	is(t, "hand", r.s.Sched.Hand, 0)
	r = begin(t, c, brief(ordered(0, strings.Repeat("x", 60)), 1), ordered(1, "y"))
	r.pump("0 7=0/0.0:xxxx 8=0/0.1:xxxx")
	is(t, "hand", r.s.Sched.Hand, 0)
	r.ticks(1)
	r.pump("0 >9,0/0 10=1/0.0:y.")
	is(t, "hand", r.s.Sched.Hand, -1)
	is(t, "last", r.s.Sched.Last, 1)
}

// I3: a forward tells up to where, and what is skipped, of Given ones; ahead of all else that goes.
func TestForward(t *testing.T) {
	c := plain
	c.Turns, c.First, c.Waiting = api.TurnsFirst, 65534, 12
	r := begin(t, c, brief(ordered(0, "a"), 1), brief(ordered(0, "b"), 1), brief(loose(0, "c"), 1), brief(loose(1, "d"), 1), ordered(0, "e"), brief(ordered(1, "f"), 1), loose(1, "g"))
	r.pump("0 65534=0/0.0:a. 65535=0/1.0:b. 0=0~0.0:c. 1=1~0.0:d. 2=0/2.0:e.", "0 3=1/0.0:f. 4=1~1.0:g.")
	r.send(loose(1, "hijk"))
	r.ticks(1)
	r.pump("0 >1,0/1,0~0,1~0 5=1~2.0:hijk.") // not 1/0: e stands ahead of it
	r.path(0, api.Path{Window: 8, Slow: 128, Flight: 6, Alarm: 3, Wait: 3})
	r.fates(3, 3, 3, 3, 1, 3, 1, 1)
	r.hear(sack(65535, 400))
	is(t, "forward, when Cum moved", r.s.Forward, true)
	r.pump("0 >1,0~0,1~0")
	is(t, "forward", r.s.Forward, false)
	r.hear(sack(65535, 400))
	is(t, "forward, when Cum did not move", r.s.Forward, false)
	r.hear(sack(1, 400))
	is(t, "forward, when nothing is to be told", r.s.Forward, false)
	r.hear(sack(2, 400))
	is(t, "forward", r.s.Forward, true)
	r.pump("0 >3,1/0")
	r.hear(sack(5, 400))
	is(t, "forward", r.s.Forward, false)
	r.fates(3, 3, 3, 3, 2, 3, 2, 2)
	// A forward goes where something was not waited for yet: it is now.
	r = begin(t, c, brief(loose(0, "a"), 3))
	r.ticks(1)
	r.pump("0 65534=0~0.0:a.")
	r.s.Paths[0].Alarm = 0
	r.ticks(2)
	r.pump("0 >65534,0~0")
	r.path(0, api.Path{Window: 8, Slow: 128, Alarm: 6, Wait: 3})
}

// I3: a forward goes on the path that Choose tells, which waits for it.
func TestForwardOnTheOtherPath(t *testing.T) {
	r := begin(t, plain, brief(loose(0, "abc"), 1))
	r.pump("0 7=0~0.0:abc.")
	r.s.Paths[0].Errors = 4
	r.ticks(1)
	r.pump("1 >7,0~0")
	r.path(0, api.Path{Window: 8, Slow: 128, Errors: 4, Alarm: 3, Wait: 3}) // something was on it: Point is above Cum, and it waits on
	r.path(1, api.Path{Window: 8, Slow: 128, Alarm: 4, Wait: 3})
	r.ticks(2)
	r.path(0, api.Path{Window: 4, Slow: 16, Errors: 5, Wait: 6})
	r.path(1, api.Path{Window: 8, Slow: 128, Alarm: 4, Wait: 3})
	r.pump("1 >7,0~0")
	r.path(0, api.Path{Window: 4, Slow: 16, Errors: 5, Wait: 6})
	r.path(1, api.Path{Window: 8, Slow: 128, Alarm: 4, Wait: 3})
}

// I3: Forward stays so until there is something to tell.
func TestForwardWaits(t *testing.T) {
	c := plain
	c.Turns = api.TurnsFirst
	r := begin(t, c, ordered(0, "abcdefgh"), brief(ordered(0, "x"), 1))
	r.pump("0 7=0/0.0:abcd 8=0/0.1:efgh.")
	r.ticks(1)
	r.pump()
	r.fates(1, 3)
	is(t, "forward", r.s.Forward, true)
	r.hear(sack(8, 400))
	is(t, "forward", r.s.Forward, true)
	r.pump()
	is(t, "forward", r.s.Forward, true)
	r.path(0, api.Path{Window: 12, Slow: 128, Wait: 3})
	r.send(brief(ordered(0, "y"), 1))
	r.pump("0 9=0/1.0:y.")
	r.ticks(1)
	r.pump("0 >9,0/1")
	is(t, "forward", r.s.Forward, false)
}

// I3: of more than MaxSkips skips the rest is told when the first ones are heard of.
func TestManySkips(t *testing.T) {
	c := api.Config{Streams: 1, Part: 1, Packet: 40, Paths: 1, Turns: 1, Waiting: 12, First: 1}
	r := begin(t, c)
	for range 10 {
		r.send(brief(loose(0, "x"), 1))
	}
	r.s.Paths[0].Window = 10
	r.s, _ = Pump(r.s)
	r.ticks(1)
	r.pump("0 >8,0~0,0~1,0~2,0~3,0~4,0~5,0~6,0~7")
	r.hear(sack(8, 400))
	r.pump("0 >10,0~8,0~9")
	r.hear(sack(10, 400))
	r.pump()
	is(t, "calm", Calm(r.s), true)
}

// I3: Lost parts go again, in turn, as long as the path is open, ahead of new ones.
func TestLostGoAgain(t *testing.T) {
	c := plain
	c.Turns, c.Paths = api.TurnsFirst, 1
	r := begin(t, c, ordered(0, "abcdefgh"), ordered(0, "i"))
	r.pump("0 7=0/0.0:abcd 8=0/0.1:efgh.")
	r.ticks(3)
	r.path(0, api.Path{Window: 4, Slow: 16, Errors: 1, Wait: 6})
	r.out("7:0L 8:0L")
	r.pump("0 7=0/0.0:abcd")
	r.out("7:0F*2 8:0L")
	r.path(0, api.Path{Window: 4, Slow: 16, Flight: 4, Errors: 1, Alarm: 9, Wait: 6})
	r.hear(sack(7, 400))
	r.path(0, api.Path{Window: 8, Slow: 16, Wait: 3})
	r.pump("0 8=0/0.1:efgh. 9=0/1.0:i.")
	r.out("8:0F*2 9:1F")
	r.path(0, api.Path{Window: 8, Slow: 16, Flight: 5, Alarm: 6, Wait: 3})
	// What they Missed is counted anew.
	r = begin(t, c, ordered(0, "abc"), ordered(0, "d"), ordered(0, "e"), ordered(0, "f"))
	r.pump("0 7=0/0.0:abc. 8=0/1.0:d. 9=0/2.0:e. 10=0/3.0:f.")
	r.hear(sack(6, 400, at(2)))
	r.hear(sack(6, 400, at(2), at(3)))
	r.out("7:0F-2 8:1A 9:2A 10:3F")
	is(t, "recover", r.s.Recover, 6)
	r.hear(sack(6, 400, at(2), at(3), at(4)))
	r.out("7:0L-3 8:1A 9:2A 10:3A")
	is(t, "recover", r.s.Recover, 10)
	r.path(0, api.Path{Window: 8, Slow: 16, Alarm: 3, Wait: 3})
	r.pump("0 7=0/0.0:abc.")
	r.out("7:0F*2 8:1A 9:2A 10:3A")
	r.path(0, api.Path{Window: 8, Slow: 16, Flight: 3, Alarm: 3, Wait: 3})
}

// I3: what goes again may go on another path; each path waits for its own.
func TestOtherPath(t *testing.T) {
	c := plain
	c.Turns = api.TurnsFirst
	r := begin(t, c, ordered(0, "abcd"))
	r.pump("0 7=0/0.0:abcd.")
	for i, wait := range []int{3, 6, 12} {
		r.ticks(wait)
		is(t, "errors", r.s.Paths[0].Errors, i+1)
		r.pump("0 7=0/0.0:abcd.")
	}
	r.ticks(24)
	r.path(0, api.Path{Window: 4, Slow: 16, Errors: 4, Wait: 24})
	r.path(1, api.Path{Window: 8, Slow: 128, Wait: 3})
	r.send(ordered(1, "e"))
	r.pump("1 7=0/0.0:abcd. 8=1/0.0:e.")
	r.out("7:0F/1*5 8:1F/1")
	r.path(0, api.Path{Window: 4, Slow: 16, Errors: 4, Wait: 24})
	r.path(1, api.Path{Window: 8, Slow: 128, Flight: 5, Alarm: 48, Wait: 3})
	r.hear(sack(8, 400))
	r.path(0, api.Path{Window: 4, Slow: 16, Errors: 4, Wait: 24})
	r.path(1, api.Path{Window: 12, Slow: 128, Wait: 3})
	r.fates(2, 2)
	// With bytes on both, both wait.
	r = begin(t, c, ordered(0, "abcd"), ordered(0, "ef"))
	r.pump("0 7=0/0.0:abcd. 8=0/1.0:ef.")
	r.s.Paths[0].Errors = 4
	r.send(brief(ordered(1, "g"), 1))
	r.pump("1 9=1/0.0:g.")
	r.path(0, api.Path{Window: 8, Slow: 128, Flight: 6, Errors: 4, Alarm: 3, Wait: 3})
	r.path(1, api.Path{Window: 8, Slow: 128, Flight: 1, Alarm: 3, Wait: 3})
	r.s.Paths[1].Alarm = 1
	r.ticks(1)
	r.out("7:0F 8:1F 9:2L/1") // only what is on it is Lost
	r.path(1, api.Path{Window: 4, Slow: 16, Errors: 1, Wait: 6})
	r.hear(sack(8, 400))
	r.path(0, api.Path{Window: 12, Slow: 128, Wait: 3})
	r.pump("0 >9,1/0") // Errors are 0: path 0 is the first one again
	r.path(0, api.Path{Window: 12, Slow: 128, Alarm: 4, Wait: 3})
	r.path(1, api.Path{Window: 4, Slow: 16, Errors: 1, Wait: 6})
}

// I3: a path on which nothing is waits for nothing, if no forward is to be told of.
func TestAlarms(t *testing.T) {
	c := plain
	c.Turns = api.TurnsFirst
	r := begin(t, c, ordered(0, "abcd"), ordered(0, "efgh"))
	r.ticks(5)
	r.pump("0 7=0/0.0:abcd. 8=0/1.0:efgh.")
	r.path(0, api.Path{Window: 8, Slow: 128, Flight: 8, Alarm: 8, Wait: 3})
	r.ticks(1)
	r.pump()
	r.path(0, api.Path{Window: 8, Slow: 128, Flight: 8, Alarm: 8, Wait: 3}) // it waits already
	r.hear(sack(6, 400, at(2)))
	r.pump()
	r.path(0, api.Path{Window: 8, Slow: 128, Flight: 4, Alarm: 8, Wait: 3})
	r.hear(sack(7, 400, at(1)))
	r.path(0, api.Path{Window: 12, Slow: 128, Wait: 3})
	r.send(ordered(0, "i"))
	r.pump("0 >8 9=0/2.0:i.") // what has Arrived ahead of all else is told, too
	r.path(0, api.Path{Window: 12, Slow: 128, Flight: 1, Alarm: 9, Wait: 3})
	// Nothing is on it, though its Alarm was set: of spans alone no Alarm goes.
	r = begin(t, c, ordered(0, "abcd"), ordered(0, "efgh"))
	r.pump("0 7=0/0.0:abcd. 8=0/1.0:efgh.")
	r.hear(sack(6, 400, at(1), at(2)))
	r.path(0, api.Path{Window: 8, Slow: 128, Alarm: 3, Wait: 3})
	r.out("7:0A 8:1A")
	r.pump()
	r.path(0, api.Path{Window: 8, Slow: 128, Alarm: 3, Wait: 3}) // Point is above Cum, as Arrived ones are
	r.ticks(3)
	is(t, "forward", r.s.Forward, true)
	r.pump("0 >8")
}
