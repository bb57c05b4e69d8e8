package ledger

import (
	"bytes"
	"fmt"
	"slices"
	"strings"
	"testing"

	"braidline/api"
	"braidline/fair"
	"braidline/line"
)

// isSame, as the chapter has it.
func isSame(m api.Message, a api.Arrival) bool {
	return m.Stream == a.Stream && m.Ordered == a.Ordered && bytes.Equal(m.Data, a.Data)
}

// alike are two arrivals that are the same as the same messages.
func alike(a, b api.Arrival) bool {
	return isSame(api.Message{Stream: a.Stream, Ordered: a.Ordered, Data: a.Data}, b)
}

// right is another wording of Right: each arrival is counted, in log and in taken; then, for each stream, ways to lay arrivals on messages are sought, one and all.
func right(taken []api.Message, log []api.Arrival) bool {
	for _, a := range log {
		there, was := 0, 0
		for _, b := range log {
			if alike(a, b) {
				there++
			}
		}
		for _, m := range taken {
			if isSame(m, a) {
				was++
			}
		}
		if there > was {
			return false
		}
	}
	for stream := range api.MaxStreams {
		var mine []api.Arrival
		for _, a := range log {
			if a.Stream == stream && a.Ordered {
				mine = append(mine, a)
			}
		}
		if !rises(taken, mine) {
			return false
		}
	}
	return true
}

// rises tells whether arrivals are the same as messages that rise: can[i] is whether the arrivals so far are, with messages ahead of i.
func rises(taken []api.Message, log []api.Arrival) bool {
	can := slices.Repeat([]bool{true}, len(taken)+1)
	for _, a := range log {
		next := make([]bool, len(taken)+1)
		for i, m := range taken {
			next[i+1] = next[i] || can[i] && isSame(m, a)
		}
		can = next
	}
	return can[len(taken)]
}

// holds Right against its other wording, and says what both say.
func holds(t *testing.T, taken []api.Message, log []api.Arrival) bool {
	t.Helper()
	want := right(taken, log)
	if got := Right(taken, log); got != want {
		t.Fatalf("of %+v %+v come: that is %v, not %v", taken, log, got, want)
	}
	return want
}

// takes is another wording of Taken: step by step.
func takes(c api.Config, l []api.Step) ([]api.Message, api.Errno, api.Line) {
	x, err := line.New(c)
	if err != api.OK {
		return nil, err, x
	}
	if len(l) > 200 {
		return nil, api.ErrMany, api.Line{}
	}
	var out []api.Message
	for _, s := range l {
		y, a := line.Do(x, s)
		if a.Err == api.OK && s.Kind == 1 {
			out = append(out, s.Message)
		}
		x = y
	}
	return out, api.OK, x
}

// holdsTaken holds Taken against its other wording, and answers what is taken, and the line.
func holdsTaken(t *testing.T, c api.Config, l []api.Step) ([]api.Message, api.Line) {
	t.Helper()
	want, err, x := takes(c, l)
	if got, e := Taken(c, l); e != err || !same(got, want) {
		t.Fatalf("of %+v with %+v are taken %+v with error %d, not %+v with error %d", l, c, got, e, want, err)
	}
	return want, x
}

// rows are all rows of up to most of some words.
func rows(words []string, most int) [][]api.Message {
	out := [][]api.Message{nil}
	last := out
	for range most {
		var longer [][]api.Message
		for _, l := range last {
			for _, w := range words {
				longer = append(longer, append(slices.Clone(l), messages(w)...))
			}
		}
		out, last = append(out, longer...), longer
	}
	return out
}

// L1: whatever short rows are taken, and come.
func TestAllShortRows(t *testing.T) {
	for _, x := range []struct {
		words []string
		most  int
	}{{[]string{"0/a", "0/b"}, 6}, {[]string{"0/a", "1/a", "0~a"}, 4}, {[]string{"3/a", "3/b", "3~b", "2/a"}, 3}, {[]string{"0/a", "4/a", "4/b", "-1/a", "0/b"}, 3}} {
		all := rows(x.words, x.most)
		var logs [][]api.Arrival
		for _, l := range all {
			logs = append(logs, arrivals(l))
		}
		for _, taken := range all {
			for _, log := range logs {
				holds(t, taken, log)
			}
		}
	}
}

// dice answers numbers that hang on seed alone.
func dice(seed int) func(below int) int {
	n := uint64(seed)*0x9e3779b97f4a7c15 + 1
	return func(below int) int {
		n ^= n << 13
		n ^= n >> 7
		n ^= n << 17
		return int(n>>11) % below
	}
}

// someLog is what may come of taken: mostly all in order, with some that are left out, come twice, change places, or are changed.
func someLog(roll func(int) int, taken []api.Message) []api.Arrival {
	log := arrivals(taken)
	for i := range log {
		log[i].Mid = roll(5)
	}
	for range roll(4) {
		if len(log) == 0 {
			break
		}
		i, j := roll(len(log)), roll(len(log))
		switch roll(7) {
		case 0, 1:
			log = slices.Delete(log, i, i+1)
		case 2:
			log = append(log, log[i])
		case 3, 4:
			log[i], log[j] = log[j], log[i]
		case 5:
			log[i].Stream = roll(6) - 1
		case 6:
			log[i].Ordered = !log[i].Ordered
		}
	}
	return log
}

// L1: long rows of few messages, of which many are the same.
func TestLongRows(t *testing.T) {
	told := map[bool]int{}
	for seed := range 6000 {
		roll := dice(seed)
		letters, streams := 1+roll(4), 1+roll(6)
		var taken []api.Message
		for range roll(40) {
			taken = append(taken, api.Message{Stream: roll(streams), Ordered: roll(4) > 0, Life: roll(3), Data: []byte{byte('a' + roll(letters))}})
		}
		told[holds(t, taken, someLog(roll, taken))]++
	}
	if told[true] < 500 || told[false] < 500 {
		t.Errorf("right and wrong are %v", told)
	}
}

func someConfig(roll func(int) int) api.Config {
	return api.Config{Streams: 1 + roll(4), Part: 1 + roll(16), Packet: 40 + roll(81), Paths: 1 + roll(2), Turns: 1 + roll(5), Waiting: 1 + roll(12), First: []int{0, 1, 65535, 65530, 3000}[roll(5)]}
}

// someMessage is one of few texts; now and then it is refused.
func someMessage(roll func(int) int, c api.Config) api.Message {
	m := api.Message{Stream: roll(c.Streams), Ordered: roll(3) > 0, Data: []byte(strings.Repeat(string(rune('a'+roll(3))), 1+roll(25)))}
	if roll(3) == 0 {
		m.Life = roll(8)
	}
	if roll(3) == 0 {
		m.Tries = roll(3)
	}
	if roll(10) == 0 {
		m.Stream = roll(7) - 1
	}
	return m
}

// someStep by mood: packets crowd the way (1), or hardly one comes (2).
func someStep(mood int, roll func(int) int, c api.Config) api.Step {
	n, m := roll(4), someMessage(roll, c)
	switch kind := roll(12); {
	case kind < 3:
		return sending(m)
	case kind == 3:
		return clock
	case mood == 1 && kind < 11:
		return doubling(n)
	case mood == 2 && kind < 11:
		return clock
	case kind == 4:
		return dropping(n)
	case kind < 7:
		return doubling(n)
	case kind == 7:
		return api.Step{Kind: roll(8), N: n, Message: m}
	}
	return going(n)
}

// someSteps with their config.
func someSteps(seed int) (api.Config, []api.Step) {
	roll := dice(seed)
	c := someConfig(roll)
	var l []api.Step
	for range roll(180) {
		l = append(l, someStep(seed%4, roll, c))
	}
	return c, l
}

// L1: what is taken of all rows of some steps.
func TestTakenOfAllRows(t *testing.T) {
	steps := []api.Step{sending(brief(ordered(0, "abcdefghijk"), 1)), sending(loose(1, "lm")), sending(ordered(2, "no")), going(0), dropping(0), clock, {Kind: 6, Message: loose(0, "p")}}
	c := api.Config{Streams: 2, Part: 3, Packet: 40, Paths: 1, Turns: 1, Waiting: 1, First: 65534}
	var deeper func(l []api.Step, left int)
	deeper = func(l []api.Step, left int) {
		taken, x := holdsTaken(t, c, l)
		balanced(t, taken, x)
		if left == 0 {
			return
		}
		for _, s := range steps {
			deeper(append(l[:len(l):len(l)], s), left-1)
		}
	}
	deeper(nil, 4)
}

// balanced: of what was taken on l each message has one fate, and what has come is right.
func balanced(t *testing.T, taken []api.Message, l api.Line) {
	t.Helper()
	n := Count(l)
	if n[0]+n[1]+n[2] != len(taken) || n[0]+n[1]+n[2] != len(l.Sender.Fates) {
		t.Fatalf("%v of %d messages wait, were delivered, and are gone", n, len(taken))
	}
	if !holds(t, taken, l.Receiver.Log) {
		t.Fatalf("of %+v %+v come", taken, l.Receiver.Log)
	}
}

// L1: whole runs: each message that was taken has a fate, and what comes is right; when nothing is lost any more none waits.
func TestWholeRuns(t *testing.T) {
	var sum [3]int
	for seed := range 500 {
		c, steps := someSteps(seed)
		taken, l := holdsTaken(t, c, steps)
		balanced(t, taken, l)
		for i, n := range Count(l) {
			sum[i] += n
		}
		l, _ = fair.Settle(l)
		balanced(t, taken, l)
		// Until then some may wait for those ahead of them, of which the other side was not yet told that they are gone.
		if n := Count(l); n[0] > 0 || n[1] > len(l.Receiver.Log) {
			t.Fatalf("%d: at last they are %v, and %d have come", seed, n, len(l.Receiver.Log))
		}
	}
	if sum[0] < 100 || sum[1] < 100 || sum[2] < 100 {
		t.Errorf("all in all they are %v", sum)
	}
}

// L1: in whole runs, what came otherwise would not be right.
func TestWholeRunsGoneWrong(t *testing.T) {
	told := map[bool]int{}
	for seed := range 400 {
		c, steps := someSteps(seed)
		taken, l := holdsTaken(t, c, steps)
		l, _ = fair.Settle(l)
		log := l.Receiver.Log
		for i, a := range log {
			stranger := a
			stranger.Data = []byte(fmt.Sprintf("%s!", a.Data))
			if holds(t, taken, append(slices.Clone(log), stranger)) || holds(t, taken, slices.Insert(slices.Clone(log), i, slices.Repeat([]api.Arrival{a}, len(taken))...)) {
				t.Fatalf("%d: what was not taken, or not as often, is right", seed)
			}
			j := dice(seed)(len(log))
			turned := slices.Clone(log)
			turned[i], turned[j] = turned[j], turned[i]
			told[holds(t, taken, turned)]++
			if !holds(t, taken, slices.Delete(slices.Clone(log), i, i+1)) {
				t.Fatalf("%d: without one it is not right", seed)
			}
		}
	}
	if told[true] < 100 || told[false] < 100 {
		t.Errorf("right and wrong are %v", told)
	}
}
