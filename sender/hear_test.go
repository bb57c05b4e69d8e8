package sender

import (
	"fmt"
	"strings"
	"testing"

	"braidline/api"
)

// out4 is a sender of which parts 7 to 10, of messages 0 to 3, are out, each of one byte.
func out4(t *testing.T) *run {
	c := plain
	c.Turns = api.TurnsFirst
	r := begin(t, c, ordered(0, "a"), ordered(0, "b"), ordered(0, "c"), ordered(0, "d"))
	r.pump("0 7=0/0.0:a. 8=0/1.0:b. 9=0/2.0:c. 10=0/3.0:d.")
	return r
}

// I4: what is no sack, or tells of what was known, or never went, changes nothing, its Room neither.
func TestHearNothing(t *testing.T) {
	for name, r := range map[string]*run{"four are out": out4(t), "nothing is out": begin(t, plain)} {
		if name == "four are out" {
			r.hear(sack(7, 300))
		} else {
			r.s.Room = 300
		}
		cum, last := r.s.Cum, r.s.Next-1
		for _, c := range []api.Chunk{
			{}, {Kind: api.ChData, Tag: last}, {Kind: api.ChForward, Tag: last}, {Kind: 4, Tag: last}, {Kind: -1, Tag: last}, {Kind: 0, Tag: last, Room: 1},
			{Kind: api.ChData, Tag: cum, Spans: []api.Span{at(2)}},
			sack(cum-1, 200), sack(cum-1, 200, api.Span{From: 1, To: 3}), sack(last+1, 200), sack(last+1, 200, at(2)), sack(last+30000, 200), sack(cum-30000, 200), sack(65535, 200), sack(0, 200),
		} {
			if got := Hear(r.s, c); !same(got, r.s) {
				t.Errorf("%s: when %+v is heard, %+v is %+v", name, c, r.s, got)
			}
		}
		// At the edges they are heard.
		for _, tag := range []int{cum, last} {
			is(t, fmt.Sprintf("%s: room, of tag %d", name, tag), Hear(r.s, sack(tag, 200)).Room, 200)
			is(t, fmt.Sprintf("%s: cum, of tag %d", name, tag), Hear(r.s, sack(tag, 200)).Cum, tag)
		}
	}
}

// I4: tags are those near Cum, where they go round, too.
func TestHearWhereTagsGoRound(t *testing.T) {
	c := plain
	c.Turns, c.First = api.TurnsFirst, 65534
	r := begin(t, c, ordered(0, "a"), ordered(0, "b"), ordered(0, "c"), ordered(0, "d"))
	r.pump("0 65534=0/0.0:a. 65535=0/1.0:b. 0=0/2.0:c. 1=0/3.0:d.")
	r.hear(sack(2, 1))
	r.hear(sack(65532, 1))
	is(t, "room and cum", [2]int{r.s.Room, r.s.Cum}, [2]int{400, 65533})
	r.hear(sack(65535, 100))
	is(t, "room and cum", [2]int{r.s.Room, r.s.Cum}, [2]int{100, 65535})
	r.hear(sack(65534, 99))
	r.hear(sack(2, 99))
	is(t, "room and cum", [2]int{r.s.Room, r.s.Cum}, [2]int{100, 65535})
	r.hear(sack(0, 98))
	is(t, "room and cum", [2]int{r.s.Room, r.s.Cum}, [2]int{98, 65536})
	r.hear(sack(1, 97))
	is(t, "room and cum", [2]int{r.s.Room, r.s.Cum}, [2]int{97, 65537})
	r.fates(2, 2, 2, 2)
}

// I4: told twice is told once, but for the room.
func TestHearTwice(t *testing.T) {
	r := out4(t)
	r.hear(sack(8, 390, at(2)))
	r.out("9:2F-1 10:3A")
	r.fates(2, 2, 1, 2)
	r.path(0, api.Path{Window: 11, Slow: 128, Flight: 1, Wait: 3}) // three bytes have come
	r.hear(sack(8, 380, at(2)))
	r.out("9:2F-1 10:3A")
	r.path(0, api.Path{Window: 11, Slow: 128, Flight: 1, Wait: 3})
	is(t, "room", r.s.Room, 380)
	r.hear(sack(10, 400))
	r.fates(2, 2, 2, 2)
	r.path(0, api.Path{Window: 12, Slow: 128, Wait: 3})
	is(t, "room and cum", [2]int{r.s.Room, r.s.Cum}, [2]int{400, 10})
}

// I4: a path is Acked by what has come of it, if something has.
func TestAcked(t *testing.T) {
	r := out4(t)
	for i := range 2 {
		r.s.Out[i].Path = 1
	}
	for i := range r.s.Paths {
		p := &r.s.Paths[i]
		p.Flight, p.Errors, p.Alarm, p.Wait = 2, 1, 9, 6
	}
	was := api.Path{Window: 8, Slow: 128, Flight: 2, Errors: 1, Alarm: 9, Wait: 6}
	acked := api.Path{Window: 9, Slow: 128, Flight: 1, Wait: 3}
	heard := &run{t, Hear(r.s, sack(7, 400))}
	heard.path(0, was)
	heard.path(1, acked)
	heard = &run{t, Hear(r.s, sack(7, 400, at(2)))} // bytes of both, and Cum moved
	heard.path(0, acked)
	heard.path(1, acked)
	heard = &run{t, Hear(r.s, sack(6, 400, at(2)))} // Cum did not move
	was.Flight = 1
	heard.path(1, was)
	was.Flight = 2
	heard.path(0, was)
	heard = &run{t, Hear(r.s, sack(6, 400))}
	heard.path(0, was)
	heard.path(1, was)
	heard = &run{t, Hear(r.s, sack(10, 400))}
	acked.Flight, acked.Window = 0, 10
	heard.path(0, acked)
	heard.path(1, acked)
	// Four bytes at most are grown by, as a part has four.
	r = begin(t, plain, ordered(0, "abcdefgh"))
	r.pump("0 7=0/0.0:abcd 8=0/0.1:efgh.")
	r.hear(sack(8, 400))
	r.path(0, api.Path{Window: 12, Slow: 128, Wait: 3})
	// What has come already of a path is not come again when Cum moves.
	r = out4(t)
	r.hear(sack(6, 400, api.Span{From: 2, To: 4}))
	r.path(0, api.Path{Window: 8, Slow: 128, Flight: 1, Alarm: 3, Wait: 3})
	r.s.Out[0].State = api.Given
	r.hear(sack(10, 400))
	r.path(0, api.Path{Window: 8, Slow: 128, Alarm: 3, Wait: 3})
}

// I4: when parts are lost the path that would be taken now is Halved, but once for all that had gone by then.
func TestRecover(t *testing.T) {
	c := plain
	c.Turns, c.Waiting = api.TurnsFirst, 12
	r := begin(t, c)
	for range 12 {
		r.send(ordered(0, "x"))
	}
	for i := range r.s.Paths {
		r.s.Paths[i].Window = 50
	}
	r.s, _ = Pump(r.s) // parts 7 to 18
	r.send(ordered(0, "y"))
	r.hear(sack(6, 400, at(4)))
	r.hear(sack(6, 400, api.Span{From: 4, To: 5}))
	is(t, "recover", r.s.Recover, 6)
	is(t, "window", r.s.Paths[0].Window, 50)
	r.hear(sack(6, 400, api.Span{From: 4, To: 6})) // now 7, 8 and 9 are lost
	is(t, "recover", r.s.Recover, 18)
	r.path(0, api.Path{Window: 25, Slow: 25, Flight: 6, Alarm: 3, Wait: 3})
	is(t, "the other window", r.s.Paths[1].Window, 50)
	for _, n := range []int{8, 10, 11} { // 13 is missed three times, 15 twice
		r.hear(sack(6, 400, api.Span{From: 4, To: 6}, at(n)))
	}
	r.out("7:0L-3 8:1L-3 9:2L-3 10:3A 11:4A 12:5A 13:6L-3 14:7A 15:8F-2 16:9A 17:10A 18:11F")
	is(t, "recover", r.s.Recover, 18)
	is(t, "window", r.s.Paths[0].Window, 25) // not again
	r.s, _ = Pump(r.s)                       // Lost ones, and part 19, go
	is(t, "next", r.s.Next, 20)
	r.hear(sack(6, 400, at(12)))
	is(t, "window", r.s.Paths[0].Window, 25)
	is(t, "state of part 15", r.s.Out[8].State, api.Lost) // it went ahead of Recover
	r.send(ordered(0, "z"), ordered(0, "z"), ordered(0, "z"))
	r.s, _ = Pump(r.s)
	r.hear(sack(18, 400, at(2)))
	r.hear(sack(18, 400, at(3)))
	is(t, "recover", r.s.Recover, 18)
	r.hear(sack(18, 400, at(4)))
	is(t, "state of part 19", r.s.Out[0].State, api.Lost)
	is(t, "recover", r.s.Recover, 22)
	is(t, "slow", r.s.Paths[0].Slow, 16)
	is(t, "window", r.s.Paths[0].Window, 16)
	// It is the path that Choose tells, wherever they were lost.
	r = out4(t)
	r.s.Paths[0].Errors, r.s.Paths[1].Window = 4, 40
	for _, n := range []int{2, 3, 4} {
		r.hear(sack(6, 400, at(n)))
	}
	r.out("7:0L-3 8:1A 9:2A 10:3A")
	r.path(0, api.Path{Window: 8, Slow: 128, Errors: 4, Alarm: 3, Wait: 3})
	r.path(1, api.Path{Window: 20, Slow: 20, Wait: 3})
}

// I4: a part that was the last one when the path was Halved is, if it is lost, too, no new loss; the one behind it is.
func TestRecoverFromTheLastOne(t *testing.T) {
	c := plain
	c.Turns, c.Waiting = api.TurnsFirst, 12
	r := begin(t, c)
	for range 5 {
		r.send(ordered(0, "x"))
	}
	r.s.Paths[0].Window = 80
	r.s, _ = Pump(r.s)
	for _, n := range []int{2, 3, 4} {
		r.hear(sack(6, 400, at(n)))
	}
	r.out("7:0L-3 8:1A 9:2A 10:3A 11:4F")
	is(t, "window and recover", [2]int{r.s.Paths[0].Window, r.s.Recover}, [2]int{40, 11})
	for range 5 {
		r.send(ordered(0, "y"))
	}
	r.s, _ = Pump(r.s)
	for _, n := range []int{6, 7, 8} {
		r.hear(sack(6, 400, at(n)))
	}
	r.out("7:0L-3*2 8:1A 9:2A 10:3A 11:4L-3 12:5A 13:6A 14:7A 15:8F 16:9F")
	is(t, "window and recover", [2]int{r.s.Paths[0].Window, r.s.Recover}, [2]int{40, 11})
	r.s.Out[5].State = api.InFlight // part 12, as if it had not come
	r.s.Out[5].Missed = 2
	r.hear(sack(6, 400, at(10)))
	is(t, "window and recover", [2]int{r.s.Paths[0].Window, r.s.Recover}, [2]int{20, 16})
}

// Tags go round while much goes and comes, and nothing is lost.
func TestLongLine(t *testing.T) {
	c := api.Config{Streams: 2, Part: 1, Packet: 120, Paths: 1, Turns: api.TurnsParts, Waiting: 12, First: 65000}
	r := begin(t, c)
	for r.s.Cum < 65000+70000 {
		for len(r.s.Queue) < c.Waiting {
			r.send(ordered(len(r.s.Fates)%2, strings.Repeat("x", 60)))
		}
		was := r.s.Cum
		r.s, _ = Pump(r.s)
		r.hear(sack((r.s.Next-1)%65536, 400))
		if r.s.Cum != r.s.Next-1 || r.s.Cum == was || len(r.s.Out) != 0 {
			t.Fatalf("of all that went up to %d, all up to %d is said to have come", r.s.Next-1, r.s.Cum)
		}
	}
	is(t, "recover", r.s.Recover, 64999)
	for id, fate := range r.s.Fates {
		if queued(r.s, id) < 0 && fate != api.Delivered {
			t.Fatalf("message %d has fate %d", id, fate)
		}
	}
}

// I4: bytes that come ahead of losses are counted ahead of them: first Acked, then Halved.
func TestAckedThenHalved(t *testing.T) {
	r := out4(t)
	r.s.Paths[0].Window = 39
	r.s.Out[1].Missed = 2
	r.hear(sack(7, 400, at(2)))
	r.out("8:1L-3 9:2A 10:3F")
	r.path(0, api.Path{Window: 20, Slow: 20, Flight: 1, Wait: 3}) // half of 41
	is(t, "recover", r.s.Recover, 10)
}

// I4: messages are Delivered when none of their parts has not come, and nothing of them is to go.
func TestDelivered(t *testing.T) {
	c := plain
	c.Turns = api.TurnsFirst
	r := begin(t, c, ordered(0, "abcdefghijk"), loose(1, "lm"))
	r.pump("0 7=0/0.0:abcd 8=0/0.1:efgh")
	r.hear(sack(8, 400))
	r.fates(1, 1) // all has come that went, but not all went
	r.pump("0 9=0/0.2:ijk. 10=1~0.0:lm.")
	r.hear(sack(8, 400, at(2)))
	r.fates(1, 2) // it has Arrived, though not all ahead of it
	r.hear(sack(9, 400, at(1)))
	r.fates(2, 2)
	// One that is gone is not delivered any more, though it comes.
	r = begin(t, c, brief(loose(0, "abc"), 1), loose(0, "def"))
	r.pump("0 7=0~0.0:abc. 8=0~1.0:def.")
	r.ticks(1)
	r.pump("0 >7,0~0")
	r.hear(sack(7, 400))
	r.fates(3, 1)
	r.hear(sack(8, 400))
	r.fates(3, 2)
	// A part that is Lost has not come.
	r = begin(t, c, loose(0, "abcdefgh"))
	r.pump("0 7=0~0.0:abcd 8=0~0.1:efgh.")
	r.ticks(3)
	r.hear(sack(7, 400))
	r.fates(1)
	r.hear(sack(8, 400)) // it came late
	r.fates(2)
	is(t, "calm", Calm(r.s), true)
}

// I4: a path is Late when its Alarm is not above the clock, and what is on it is.
func TestTick(t *testing.T) {
	r := begin(t, plain)
	r.ticks(4)
	want, _ := New(plain)
	want.Clock = 4
	if !same(r.s, want) {
		t.Errorf("Tick makes %+v", r.s)
	}
	r = out4(t)
	r.ticks(2)
	r.out("7:0F 8:1F 9:2F 10:3F")
	r.path(0, api.Path{Window: 8, Slow: 128, Flight: 4, Alarm: 3, Wait: 3})
	is(t, "clock", r.s.Clock, 2)
	r.ticks(1)
	r.out("7:0L 8:1L 9:2L 10:3L")
	r.path(0, api.Path{Window: 4, Slow: 16, Errors: 1, Wait: 6})
	r.path(1, api.Path{Window: 8, Slow: 128, Wait: 3})
	is(t, "clock", r.s.Clock, 3)
	is(t, "forward", r.s.Forward, false)
	is(t, "recover", r.s.Recover, 6)
	r.ticks(10) // it waits for nothing, until something goes
	r.path(0, api.Path{Window: 4, Slow: 16, Errors: 1, Wait: 6})
	// Both paths, and one whose Alarm is long over.
	r = out4(t)
	r.s.Out[1].Path, r.s.Out[3].Path, r.s.Out[3].State = 1, 1, api.Arrived
	r.s.Paths[1].Alarm, r.s.Paths[1].Flight, r.s.Paths[0].Flight = 4, 1, 2
	late := &run{t, Tick(r.s)}
	late.out("7:0F 8:1F/1 9:2F 10:3A/1")
	late.ticks(2)
	late.out("7:0L 8:1F/1 9:2L 10:3A/1")
	late.ticks(1)
	late.out("7:0L 8:1L/1 9:2L 10:3A/1")
	late.path(1, api.Path{Window: 4, Slow: 16, Errors: 1, Wait: 6})
	r.s.Clock = 100
	late = &run{t, Tick(r.s)}
	late.out("7:0L 8:1L/1 9:2L 10:3A/1")
	late.path(0, api.Path{Window: 4, Slow: 16, Errors: 1, Wait: 6})
	late.path(1, api.Path{Window: 4, Slow: 16, Errors: 1, Wait: 6})
}

// I4: a forward that was told, and of which nothing was heard, is told again when its path is Late.
func TestTickTellsAgain(t *testing.T) {
	c := plain
	c.Turns = api.TurnsFirst
	r := begin(t, c, brief(loose(0, "abc"), 1), loose(0, "def"))
	r.pump("0 7=0~0.0:abc. 8=0~1.0:def.")
	r.ticks(1)
	r.pump("0 >7,0~0")
	r.ticks(1)
	is(t, "forward", r.s.Forward, false) // not ahead of the Alarm
	r.ticks(1)
	is(t, "forward", r.s.Forward, true)
	r.pump("0 >7,0~0 8=0~1.0:def.")
	is(t, "forward", r.s.Forward, false)
	r.ticks(5)
	is(t, "forward", r.s.Forward, false)
	r.ticks(1)
	is(t, "forward", r.s.Forward, true)
	// Given ones behind what has not come are not told of.
	r = begin(t, c, loose(0, "abc"), brief(loose(0, "def"), 1))
	r.pump("0 7=0~0.0:abc. 8=0~1.0:def.")
	r.ticks(1)
	r.pump()
	r.out("7:0F 8:1G")
	is(t, "forward", r.s.Forward, true)
	r.s.Forward = false
	r.ticks(2)
	r.out("7:0L 8:1G")
	is(t, "forward", r.s.Forward, false)
}

// Waits get longer and longer, but not for ever; then the other path is taken, and the first one again, when it has failed likewise.
func TestLongWaits(t *testing.T) {
	r := begin(t, plain, ordered(0, "a"))
	var went []string
	for range 300 {
		s, l := Pump(r.s)
		for _, p := range packetsOf(l) {
			went = append(went, fmt.Sprintf("%d@%d", p[0]-'0', s.Clock))
		}
		r.s = Tick(s)
	}
	want := "0@0 0@3 0@9 0@21 1@45 1@48 1@54 1@66 0@90 0@114 0@138 0@162 0@186 0@210 0@234 0@258 0@282"
	is(t, "went", strings.Join(went, " "), want)
}
