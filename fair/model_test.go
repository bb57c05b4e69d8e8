package fair

import (
	"fmt"
	"strings"
	"testing"

	"braidline/api"
	"braidline/line"
)

// both holds Round and Settle of l against rounds that are steps; the rounds are told to see.
func both(t *testing.T, l api.Line, see func(api.Line)) {
	t.Helper()
	x, n := l, 0
	for n < 400 && (len(x.Sender.Queue) > 0 || len(x.Sender.Out) > 0 || len(x.Way) > 0) {
		y := x
		for _, s := range stepsOf(x) {
			next, a := line.Do(y, s)
			if a != (api.Answer{}) {
				t.Fatalf("%+v is answered by %+v", s, a)
			}
			y = next
		}
		if got := Round(x); !same(got, y) {
			t.Fatalf("Round makes of %+v: %+v, not %+v", x, got, y)
		}
		x = y
		n++
		see(x)
	}
	if got, many := Settle(l); many != n || !same(got, x) {
		t.Fatalf("Settle makes, in %d rounds, of %+v: %+v, not, in %d, %+v", many, l, got, n, x)
	}
}

// stepsOf are the steps of the next round of l.
func stepsOf(l api.Line) []api.Step {
	var out []api.Step
	for range l.Way {
		out = append(out, going(0))
	}
	return append(out, clock)
}

func nothing(api.Line) {}

// K1: lines of all rows of up to four of some steps.
func TestAllRows(t *testing.T) {
	steps := []api.Step{sending(brief(ordered(0, "abcdefghijk"), 2)), sending(loose(1, "lmnopq")), going(0), dropping(0), doubling(0), clock}
	for turns := api.TurnsFirst; turns <= api.TurnsFair; turns++ {
		c := api.Config{Streams: 2, Part: 3, Packet: 40, Paths: 1 + turns%2, Turns: turns, Waiting: 2, First: 65534}
		var deeper func(l api.Line, left int)
		deeper = func(l api.Line, left int) {
			both(t, l, nothing)
			if left == 0 {
				return
			}
			for _, x := range steps {
				// What was refused makes no other line.
				if y, a := line.Do(l, x); a.Err == api.OK {
					deeper(y, left-1)
				}
			}
		}
		l, _ := line.New(c)
		deeper(l, 4)
	}
}

// dice answers numbers that hang on seed alone.
func dice(seed int) func(below int) int {
	n := uint64(seed)*0x9e3779b97f4a7c15 + 1
	return func(below int) int {
		n ^= n << 13
		n ^= n >> 7
		n ^= n << 17
		return int(n>>11) % below
	}
}

func someConfig(roll func(int) int) api.Config {
	return api.Config{Streams: 1 + roll(4), Part: 1 + roll(16), Packet: 40 + roll(81), Paths: 1 + roll(2), Turns: 1 + roll(5), Waiting: 1 + roll(12), First: []int{0, 1, 65535, 65530, 3000}[roll(5)]}
}

func someMessage(roll func(int) int, c api.Config) api.Message {
	m := api.Message{Stream: roll(c.Streams), Ordered: roll(2) == 0, Data: []byte(strings.Repeat(string(rune('a'+roll(26))), 1+roll(60)))}
	if roll(3) == 0 {
		m.Life = 1 + roll(8)
	}
	if roll(3) == 0 {
		m.Tries = 1 + roll(2)
	}
	return m
}

// someStep is one of a line with so many packets on the way; by mood packets crowd the way (1), or hardly one comes (2).
func someStep(mood int, roll func(int) int, c api.Config, way int) api.Step {
	n := roll(max(way, 1))
	switch kind := roll(12); {
	case kind < 3:
		return sending(someMessage(roll, c))
	case kind == 3:
		return clock
	case mood == 1 && kind < 11:
		return doubling(n)
	case mood == 2 && kind < 11:
		return clock
	case kind == 4:
		return dropping(n)
	case kind < 7:
		return doubling(n)
	}
	return going(n)
}

// someLine is a line that steps make, and the messages that were taken on it.
func someLine(seed int) (api.Line, []api.Message) {
	roll := dice(seed)
	c := someConfig(roll)
	l, _ := line.New(c)
	var taken []api.Message
	for range roll(150) {
		x := someStep(seed%4, roll, c, len(l.Way))
		y, a := line.Do(l, x)
		if x.Kind == api.StepSend && a.Err == api.OK {
			taken = append(taken, x.Message)
		}
		l = y
	}
	return l, taken
}

// K1: lines of whatever steps, round by round.
func TestLongRows(t *testing.T) {
	for seed := range 400 {
		l, _ := someLine(seed)
		both(t, l, func(l api.Line) {
			if len(l.Way) > api.MaxPackets {
				t.Fatalf("%d packets are on the way", len(l.Way))
			}
		})
	}
}

// K1: a round is steps, so whoever Plays them has the same line.
func TestRoundsArePlayed(t *testing.T) {
	for seed := range 100 {
		roll := dice(seed)
		c := someConfig(roll)
		var steps []api.Step
		for range roll(80) {
			steps = append(steps, someStep(seed%4, roll, c, 5))
		}
		for range 2 {
			l, _, err := line.Play(c, steps)
			steps = append(steps, stepsOf(l)...)
			want, _, more := line.Play(c, steps)
			if got := Round(l); err != api.OK || more != api.OK || !same(got, want) {
				t.Fatalf("Round makes of %+v: %+v, not %+v", l, got, want)
			}
		}
	}
}

// K1: when nothing is lost any more, all comes at last: Settle is not at its end, what has neither Life nor Tries is delivered, and what is said to be delivered has come.
func TestAllComesAtLast(t *testing.T) {
	for seed := range 600 {
		l, taken := someLine(seed)
		x, n := Settle(l)
		if n == most {
			t.Fatalf("%d: it goes on and on: %+v", seed, x)
		}
		came(t, x, taken)
		if y, n := Settle(x); n != 0 || !same(y, x) {
			t.Fatalf("%d: then come %d rounds, and %+v", seed, n, y)
		}
	}
}

func came(t *testing.T, l api.Line, taken []api.Message) {
	t.Helper()
	name := func(stream int, ordered bool, data []byte) string { return fmt.Sprint(stream, ordered, string(data)) }
	log := map[string]int{}
	for _, a := range l.Receiver.Log {
		log[name(a.Stream, a.Ordered, a.Data)]++
	}
	for id, m := range taken {
		k := name(m.Stream, m.Ordered, m.Data)
		switch fate := l.Sender.Fates[id]; {
		case fate == api.Delivered && log[k] == 0:
			t.Fatalf("message %d, %+v, is said to be delivered, and is not", id, m)
		case fate == api.Delivered:
			log[k]--
		case fate == api.Waits || m.Life == 0 && m.Tries == 0:
			t.Fatalf("message %d, %+v, has fate %d", id, m, fate)
		}
	}
}
