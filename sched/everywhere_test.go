package sched

import (
	"math"
	"reflect"
	"slices"
	"testing"

	"braidline/api"
)

var odd = []int{math.MinInt, math.MinInt + 1, -65536, -2, -1, 0, 1, 2, 3, 255, 65536, math.MaxInt - 1, math.MaxInt}

// Z1: New answers, of however many streams; beyond what is promised, too.
func TestNoNumberOfStreamsPanics(t *testing.T) {
	for _, n := range append(odd, math.MaxInt/8, math.MaxInt/8+1, math.MaxInt32+1, math.MaxInt/2) {
		s := New(n)
		if s.Last != n-1 || s.Hand != -1 || !same(s, New(n)) {
			t.Errorf("New(%d): Last %d, Hand %d", n, s.Last, s.Hand)
		}
		if n <= 65536 && len(s.Had) != max(n, 0) {
			t.Errorf("New(%d) has %d streams", n, len(s.Had))
		}
	}
}

// Z1: whatever stands in a sched and in messages, all calls answer, and the same again; Last may be no stream.
func TestNothingPanics(t *testing.T) {
	for _, a := range odd {
		for _, b := range odd {
			for _, c := range odd {
				q := []api.Queued{message(a, b), message(b, c), message(c, a)}
				for _, s := range []api.Sched{sched(a, b), sched(b, c, a), sched(c, a, b, c), sched(a, c, c, b, a, 0)} {
					goesTheSame(t, a, s, q)
					for _, turns := range byStreams {
						goesTheSame(t, turns, s, q)
					}
				}
			}
		}
	}
}

// goesTheSame: all calls answer each time the same; of Last that is a stream, Next answers what it must, of another a message of a stream, if there is one.
func goesTheSame(t *testing.T, turns int, s api.Sched, q []api.Queued) {
	t.Helper()
	got := Next(turns, s, q)
	if got != Next(turns, s, q) || got < -1 || got >= len(q) {
		t.Fatalf("Next(%d, %+v, %+v) = %d, then %d", turns, s, q, got, Next(turns, s, q))
	}
	round := turns == api.TurnsRound || turns == api.TurnsParts
	if !round || 0 <= s.Last && s.Last < len(s.Had) {
		next(t, turns, s, q, wanted(turns, s, q))
	}
	if some := wanted(api.TurnsRank, s, q); some >= 0 && got < 0 {
		t.Fatalf("Next(%d, %+v, %+v) = %d, and message %d waits", turns, s, q, got, some)
	}
	if !same(Own(s), s) {
		t.Fatalf("Own(%+v) = %+v", s, Own(s))
	}
	for _, m := range q {
		for _, over := range []bool{false, true} {
			if one := Had(s, m, turns, over); !same(one, Had(s, m, turns, over)) || len(one.Had) != len(s.Had) {
				t.Fatalf("Had(%+v, %+v, %d, %t) = %+v, then %+v", s, m, turns, over, one, Had(s, m, turns, over))
			}
		}
	}
}

// FuzzNext is run on its seeds by go test, and on more by go test -fuzz: each byte of had is a stream, each two bytes of b are a message.
func FuzzNext(f *testing.F) {
	for turns := range 7 {
		f.Add(turns, 0, 11, []byte{0, 3, 0}, []byte{10, 1, 11, 2, 12, 0, 11, 5})
		f.Add(turns, 3, -1, []byte{4, 3, 2, 1}, []byte{1, 255, 2, 2, 3, 1, 4, 3, 5, 0})
		f.Add(turns, -1, -1, []byte{}, []byte{1, 1})
		f.Add(turns, 1, 2, []byte{1, 1}, []byte{})
	}
	f.Fuzz(func(t *testing.T, turns, last, hand int, had, b []byte) {
		s := sched(last, hand)
		for _, n := range had {
			s.Had = append(s.Had, int(int8(n)))
		}
		var q []api.Queued
		for two := range slices.Chunk(b, 2) {
			q = append(q, message(int(int8(two[0])), int(int8(two[len(two)-1]))))
		}
		goesTheSame(t, turns, s, q)
		if len(had) > 0 {
			s.Last = (last%len(had) + len(had)) % len(had)
			for turns := range 7 {
				next(t, turns, s, q, wanted(turns, s, q))
			}
		}
	})
}

// spacious is a sched of three streams, and messages of these and of another one; all of their lists have spare room with something in it: a stream that had fewest, and messages that would be first.
func spacious() (api.Sched, []api.Queued) {
	s := sched(0, 12, 9, 5, 7, -77, -78)
	s.Had = s.Had[:3]
	q := waiting(9, 2, 2, 1, 0, 0, 1, 0)
	for i := range q {
		q[i].Mid, q[i].Came, q[i].Sent, q[i].Parts = i+1, i+2, i+3, i+4
		q[i].Message.Data = []byte("hello, there")[:5]
	}
	return s, q[:4]
}

// intact tells whether s, q and all spare room in them are as spacious made them.
func intact(s api.Sched, q []api.Queued) bool {
	roomToo := func(s api.Sched, q []api.Queued) (api.Sched, []api.Queued) {
		s.Had = s.Had[:5]
		q = slices.Clone(q[:8])
		for i := range q {
			q[i].Message.Data = q[i].Message.Data[:12]
		}
		return s, q
	}
	s, q = roomToo(s, q)
	s2, q2 := roomToo(spacious())
	return same(s, s2) && reflect.DeepEqual(q, q2)
}

// overwrite changes s's streams, and the spare room behind them.
func overwrite(s api.Sched) {
	all := s.Had[:cap(s.Had)]
	for i := range all {
		all[i] = 201
	}
}

// Z2: scheds, messages, and the spare room behind them are not changed; spare room is not looked at.
func TestAllIsOnlyRead(t *testing.T) {
	s, q := spacious()
	for turns, want := range []int{0, 0, 2, 3, 3, 3, 0} {
		next(t, turns, s, q, want)
	}
	s.Hand = -1
	next(t, api.TurnsRound, s, q, 3)
	s.Hand = 14
	next(t, api.TurnsRound, s, q, 3)
	s.Hand = 12
	for _, turns := range byStreams {
		next(t, turns, s, q[:0], -1)
		next(t, turns, s, q[:1], -1)
		next(t, turns, s, waiting(3, 4), -1) // no streams, but for the spare room
		next(t, turns, s, waiting(3, 1), 1)
	}
	for _, m := range q {
		Had(s, m, 4, false)
		Had(s, m, 4, true)
	}
	had(t, s, message(1, 3), 4, false, sched(3, 1, 9, 5, 7))
	had(t, s, message(1, 4), 4, true, sched(4, -1, 9, 5, 7))
	Own(s)
	if !intact(s, q) {
		t.Errorf("of what was handed in is left: %+v, %+v", s, q)
	}
}

// Z2: what Own and Had answer is new memory: it changes with nothing, and nothing with it.
func TestAnswersAreNew(t *testing.T) {
	for name, call := range map[string]func(api.Sched, []api.Queued) api.Sched{
		"Own":                      func(s api.Sched, _ []api.Queued) api.Sched { return Own(s) },
		"Had":                      func(s api.Sched, q []api.Queued) api.Sched { return Had(s, q[1], 4, false) },
		"Had of nothing":           func(s api.Sched, q []api.Queued) api.Sched { return Had(s, q[1], 0, true) },
		"Had of another stream":    func(s api.Sched, q []api.Queued) api.Sched { return Had(s, q[0], 4, false) },
		"Had of what stays as was": func(s api.Sched, _ []api.Queued) api.Sched { return Had(s, message(12, 0), 0, false) },
	} {
		s, q := spacious()
		got := call(s, q)
		overwrite(got)
		if !intact(s, q) {
			t.Errorf("%s: with what is answered changes what was handed in: %+v, %+v", name, s, q)
		}
		got = call(s, q)
		want := api.Sched{Last: got.Last, Hand: got.Hand, Had: slices.Clone(got.Had)}
		overwrite(s)
		clear(q)
		if !same(got, want) {
			t.Errorf("%s: %+v, and then, with what was handed in, %+v", name, want, got)
		}
	}
}

// Z2: what New answers is the caller's: what it does with it is not seen by the next one.
func TestNewIsNew(t *testing.T) {
	for streams := range 5 {
		overwrite(New(streams))
		s := New(streams)
		if len(s.Had) != streams || slices.ContainsFunc(s.Had, func(n int) bool { return n != 0 }) {
			t.Errorf("New(%d), once more, is %+v", streams, s)
		}
	}
}

// Z3: lists that are nil, and lists without entries, are the same.
func TestNilIsEmpty(t *testing.T) {
	for _, none := range [][]int{nil, {}, []int{5, 6}[:0]} {
		s := api.Sched{Last: 1, Hand: 10, Had: none}
		for _, turns := range modes {
			next(t, turns, s, waiting(0, 1), -1)
		}
		had(t, s, message(4, 0), 3, false, sched(0, 4))
		if !same(Own(s), s) {
			t.Errorf("Own(%+v) = %+v", s, Own(s))
		}
	}
	for _, none := range [][]api.Queued{nil, {}, waiting(0, 1)[:0]} {
		for _, turns := range modes {
			next(t, turns, sched(1, 10, 0, 0), none, -1)
		}
	}
}

// Z5: fields of a message that the chapter does not name mean nothing.
func TestFieldsThatAreNotNamed(t *testing.T) {
	q := waiting(2, 9, 1, 0, 1, 2)
	for _, n := range odd {
		full := slices.Clone(q)
		for i := range full {
			m := &full[i]
			m.Mid, m.Came, m.Sent, m.Parts = n, n-i, n+i, n
			m.Message.Ordered, m.Message.Life, m.Message.Tries = i%2 == 0, n-i, n+i
			m.Message.Data = make([]byte, i)
		}
		for last := range 3 {
			for hand := 9; hand <= 16; hand++ {
				s := sched(last, hand, 4, 2, 2)
				for _, turns := range modes {
					next(t, turns, s, full, Next(turns, s, q))
				}
			}
		}
		for i, m := range full {
			had(t, New(3), m, 4, false, Had(New(3), q[i], 4, false))
			had(t, New(3), m, 4, true, Had(New(3), q[i], 4, true))
		}
	}
}
