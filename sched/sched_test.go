package sched

import (
	"cmp"
	"math"
	"slices"
	"testing"

	"braidline/api"
)

// modes are all ways to take turns, and some that are none.
var modes = []int{math.MinInt, -1, 0, api.TurnsFirst, api.TurnsRound, api.TurnsParts, api.TurnsRank, api.TurnsFair, 6, 7, math.MaxInt}

// byStreams are those that look for a stream.
var byStreams = []int{api.TurnsRound, api.TurnsParts, api.TurnsRank, api.TurnsFair}

func sched(last, hand int, had ...int) api.Sched {
	return api.Sched{Last: last, Hand: hand, Had: had}
}

func message(id, stream int) api.Queued {
	return api.Queued{ID: id, Message: api.Message{Stream: stream}}
}

// waiting are messages of these streams, with IDs 10, 11 and so on.
func waiting(streams ...int) []api.Queued {
	var q []api.Queued
	for i, stream := range streams {
		q = append(q, message(10+i, stream))
	}
	return q
}

// same holds scheds against each other; nil and a list without entries are the same.
func same(a, b api.Sched) bool {
	return a.Last == b.Last && a.Hand == b.Hand && slices.Equal(a.Had, b.Had)
}

func next(t *testing.T, turns int, s api.Sched, q []api.Queued, want int) {
	t.Helper()
	if got := Next(turns, s, q); got != want {
		t.Errorf("Next(%d, %+v, %+v) = %d, not %d", turns, s, q, got, want)
	}
}

func had(t *testing.T, s api.Sched, m api.Queued, bytes int, over bool, want api.Sched) {
	t.Helper()
	if got := Had(s, m, bytes, over); !same(got, want) {
		t.Errorf("Had(%+v, %+v, %d, %t) = %+v, not %+v", s, m, bytes, over, got, want)
	}
}

func TestNew(t *testing.T) {
	for _, x := range []struct {
		streams int
		want    api.Sched
	}{
		{1, sched(0, -1, 0)},
		{2, sched(1, -1, 0, 0)},
		{3, sched(2, -1, 0, 0, 0)},
		{4, sched(3, -1, 0, 0, 0, 0)},
		{7, sched(6, -1, 0, 0, 0, 0, 0, 0, 0)},
		{0, sched(-1, -1)},
		{-1, sched(-2, -1)},
		{-2, sched(-3, -1)},
		{-1000, sched(-1001, -1)},
		{math.MinInt + 1, sched(math.MinInt, -1)},
	} {
		if got := New(x.streams); !same(got, x.want) {
			t.Errorf("New(%d) = %+v, not %+v", x.streams, got, x.want)
		}
	}
}

func TestNewOfMany(t *testing.T) {
	const many = 1 << 20
	s := New(many)
	if s.Last != many-1 || s.Hand != -1 || len(s.Had) != many || slices.ContainsFunc(s.Had, func(n int) bool { return n != 0 }) {
		t.Errorf("New(%d): Last %d, Hand %d, and %d streams", many, s.Last, s.Hand, len(s.Had))
	}
}

func TestOwn(t *testing.T) {
	for _, s := range []api.Sched{
		{}, New(0), New(1), New(3), New(-1), sched(1, 7, 3, 0, 9), sched(9, 3, 0, 0), sched(-7, -5, -1, math.MaxInt, math.MinInt),
	} {
		if got := Own(s); !same(got, s) {
			t.Errorf("Own(%+v) = %+v", s, got)
		}
	}
}

func TestNextOfNothing(t *testing.T) {
	for _, turns := range modes {
		for _, s := range []api.Sched{New(1), New(2), New(4), sched(0, 10, 5, 3)} {
			next(t, turns, s, nil, -1)
		}
	}
}

func TestNextWithoutStreams(t *testing.T) {
	for _, turns := range modes {
		for _, s := range []api.Sched{{}, New(0), New(-1), New(math.MinInt), sched(0, 10), sched(0, -1)} {
			next(t, turns, s, waiting(0), -1)
			next(t, turns, s, waiting(1, -1, 0), -1)
			next(t, turns, s, nil, -1)
		}
	}
}

// Who came first goes first, whatever stream it is of; so it is of turns that there are not.
func TestNextOfOthers(t *testing.T) {
	for _, turns := range modes {
		if slices.Contains(byStreams, turns) {
			continue
		}
		for _, s := range []api.Sched{New(1), New(3), sched(1, 11, 9, 0, 0)} {
			next(t, turns, s, waiting(0), 0)
			next(t, turns, s, waiting(2, 0, 1), 0)
			next(t, turns, s, waiting(1, 1, 0), 0)
			next(t, turns, s, waiting(9, 0), 0)
			next(t, turns, s, waiting(-1), 0)
		}
	}
}

// Of two streams that take turns, of which none had one, stream 0 is first.
func TestStreamNoughtIsFirst(t *testing.T) {
	for _, turns := range byStreams {
		for streams := 2; streams <= 4; streams++ {
			next(t, turns, New(streams), waiting(1, 0), 1)
			next(t, turns, New(streams), waiting(0, 1), 0)
			next(t, turns, New(streams), waiting(1, 1, 0, 0), 2)
		}
		next(t, turns, New(1), waiting(0, 0), 0)
	}
}

func TestNextInHand(t *testing.T) {
	q := waiting(2, 0, 1, 1)
	for last := range 3 {
		for i, m := range q {
			next(t, api.TurnsRound, sched(last, m.ID, 0, 0, 0), q, i)
		}
	}
	// What no longer waits isn't in hand any more: it goes on behind Last.
	for _, hand := range []int{-1, -2, 0, 1, 2, 3, 9, 14, math.MinInt, math.MaxInt} {
		next(t, api.TurnsRound, sched(0, hand, 0, 0, 0), q, 2)
		next(t, api.TurnsRound, sched(1, hand, 0, 0, 0), q, 0)
		next(t, api.TurnsRound, sched(2, hand, 0, 0, 0), q, 1)
	}
}

// No other way to take turns looks at what is in hand.
func TestNextNotInHand(t *testing.T) {
	q := waiting(2, 0, 1, 1)
	for hand := 9; hand <= 14; hand++ {
		next(t, api.TurnsFirst, sched(1, hand, 2, 1, 1), q, 0)
		next(t, api.TurnsParts, sched(0, hand, 2, 1, 1), q, 2)
		next(t, api.TurnsRank, sched(0, hand, 2, 1, 1), q, 1)
		next(t, api.TurnsFair, sched(0, hand, 2, 1, 1), q, 2)
	}
}

func TestNextBehindLast(t *testing.T) {
	for _, turns := range []int{api.TurnsRound, api.TurnsParts} {
		for _, x := range []struct {
			last, want int
			streams    []int
		}{
			{0, 1, []int{0, 1, 2, 3}}, {1, 2, []int{0, 1, 2, 3}}, {2, 3, []int{0, 1, 2, 3}}, {3, 0, []int{0, 1, 2, 3}},
			{0, 2, []int{3, 2, 1, 0}}, {1, 1, []int{3, 2, 1, 0}}, {2, 0, []int{3, 2, 1, 0}}, {3, 3, []int{3, 2, 1, 0}},
			{0, 0, []int{2, 2, 0, 0}}, {1, 0, []int{2, 2, 0, 0}}, {2, 2, []int{2, 2, 0, 0}}, {3, 2, []int{2, 2, 0, 0}},
			{0, 0, []int{0, 0}}, {1, 0, []int{0, 0}}, {0, 0, []int{3}}, {3, 0, []int{3}},
			{1, 1, []int{1, 0, 1, 0}}, {1, 2, []int{1, 0, 3, 3}},
		} {
			next(t, turns, sched(x.last, -1, 4, 3, 2, 1), waiting(x.streams...), x.want)
		}
	}
}

func TestNextByRank(t *testing.T) {
	for last := range 3 {
		s := sched(last, 10, 9, 5, 0)
		next(t, api.TurnsRank, s, waiting(2, 1, 0, 0), 2)
		next(t, api.TurnsRank, s, waiting(2, 1, 1, 2), 1)
		next(t, api.TurnsRank, s, waiting(2, 2), 0)
		next(t, api.TurnsRank, s, waiting(0, 1, 2), 0)
	}
}

func TestNextByBytes(t *testing.T) {
	for last := range 3 {
		for _, x := range []struct {
			had, streams []int
			want         int
		}{
			{[]int{3, 2, 1}, []int{0, 1, 2}, 2},
			{[]int{3, 2, 1}, []int{2, 2, 1, 0}, 0},
			{[]int{3, 2, 1}, []int{0, 1, 0, 1}, 1},
			{[]int{3, 2, 1}, []int{0, 0}, 0},
			{[]int{1, 2, 3}, []int{2, 1, 0, 0}, 2},
			{[]int{2, 1, 1}, []int{2, 1, 0, 1}, 1},
			{[]int{1, 2, 1}, []int{2, 1, 0}, 2},
			{[]int{5, 5, 5}, []int{2, 1, 1}, 1},
			{[]int{0, -1, -2}, []int{0, 1, 2}, 2},
			{[]int{math.MaxInt, math.MinInt, 0}, []int{0, 2, 1}, 2},
			{[]int{math.MaxInt, math.MinInt, 0}, []int{0, 2}, 1},
			{[]int{math.MinInt, math.MaxInt, math.MaxInt}, []int{2, 1}, 1},
		} {
			next(t, api.TurnsFair, sched(last, 10, x.had...), waiting(x.streams...), x.want)
		}
	}
}

// A message of another stream waits for ever.
func TestNextOfOtherStreams(t *testing.T) {
	for _, turns := range byStreams {
		for _, stream := range []int{math.MinInt, -4, -1, 2, 3, 9, math.MaxInt} {
			for last := range 2 {
				s := sched(last, -1, 4, 4)
				next(t, turns, s, waiting(stream), -1)
				next(t, turns, s, waiting(stream, stream, 7, -7), -1)
				next(t, turns, s, waiting(stream, 1, stream, 1), 1)
				next(t, turns, s, waiting(stream, 0), 1)
				next(t, turns, s, waiting(0, stream), 0)
			}
		}
	}
}

// The message of ID Hand is in hand, whatever its ID and its stream, the first one of that ID.
func TestNextInHandWhateverItIs(t *testing.T) {
	for _, id := range []int{math.MinInt, -2, -1, 0, math.MaxInt} {
		for _, stream := range []int{math.MinInt, -1, 0, 1, 2, math.MaxInt} {
			q := []api.Queued{message(5, 0), message(id, stream), message(6, 1), message(id, 0)}
			next(t, api.TurnsRound, sched(0, id, 0, 0), q, 1)
		}
	}
}

func TestHad(t *testing.T) {
	s := sched(2, -1, 5, 0, 7)
	had(t, s, message(3, 0), 4, false, sched(0, 3, 9, 0, 7))
	had(t, s, message(3, 0), 4, true, sched(0, -1, 9, 0, 7))
	had(t, s, message(0, 1), 16, false, sched(1, 0, 5, 16, 7))
	had(t, s, message(0, 1), 16, true, sched(1, -1, 5, 16, 7))
	had(t, s, message(8, 2), 1, false, sched(2, 8, 5, 0, 8))
	had(t, s, message(8, 2), 0, true, sched(2, -1, 5, 0, 7))
	had(t, sched(0, 4, 1), message(4, 0), 2, true, sched(0, -1, 3))
	had(t, sched(0, 4, 1), message(4, 0), 2, false, sched(0, 4, 3))
	had(t, sched(0, 4, 1), message(5, 0), 2, false, sched(0, 5, 3))
}

// Nothing of a stream that there is not is counted, but it was the last one.
func TestHadOfOtherStreams(t *testing.T) {
	for _, stream := range []int{math.MinInt, -2, -1, 2, 3, 9, math.MaxInt} {
		had(t, sched(1, 7, 5, 6), message(3, stream), 4, false, sched(stream, 3, 5, 6))
		had(t, sched(1, 7, 5, 6), message(3, stream), 4, true, sched(stream, -1, 5, 6))
	}
	for stream := -1; stream <= 1; stream++ {
		for _, s := range []api.Sched{{}, New(0), New(-3)} {
			had(t, s, message(3, stream), 4, false, sched(stream, 3))
			had(t, s, message(3, stream), 4, true, sched(stream, -1))
		}
	}
}

func TestHadOfOddNumbers(t *testing.T) {
	for _, n := range []int{math.MinInt, -5, -1, 0, 1, math.MaxInt - 5} {
		had(t, sched(0, 7, 5, 1), message(n, 0), n, false, sched(0, n, 5+n, 1))
		had(t, sched(0, 7, 5, 1), message(n, 0), n, true, sched(0, -1, 5+n, 1))
	}
}

// wanted is what Next must answer, as the chapter words it: stream by stream, in the order in which they come.
func wanted(turns int, s api.Sched, q []api.Queued) int {
	if len(q) == 0 || len(s.Had) == 0 {
		return -1
	}
	var order []int
	for stream := range s.Had {
		order = append(order, stream)
	}
	switch turns {
	case api.TurnsRound, api.TurnsParts:
		for i := range q {
			if turns == api.TurnsRound && q[i].ID == s.Hand {
				return i
			}
		}
		order = slices.Concat(order[s.Last+1:], order[:s.Last+1])
	case api.TurnsRank:
	case api.TurnsFair:
		slices.SortStableFunc(order, func(a, b int) int { return cmp.Compare(s.Had[a], s.Had[b]) })
	default:
		return 0
	}
	for _, stream := range order {
		for i := range q {
			if q[i].Message.Stream == stream {
				return i
			}
		}
	}
	return -1
}

// eachList calls do with all lists of n numbers from low to high.
func eachList(n, low, high int, do func([]int)) {
	l := make([]int, n)
	var fill func(i int)
	fill = func(i int) {
		if i == n {
			do(l)
			return
		}
		for l[i] = low; l[i] <= high; l[i]++ {
			fill(i + 1)
		}
	}
	fill(0)
}

// All lists of up to 4 messages of up to 3 streams, or of others, with all that may have been ahead of them.
func TestNextOfAllLists(t *testing.T) {
	for streams := range 4 {
		for many := range 5 {
			eachList(many, -1, streams, func(of []int) {
				q := waiting(of...)
				eachList(streams, 0, 2, func(bytes []int) {
					for last := range streams {
						for hand := 9; hand <= 13; hand++ {
							s := sched(last, hand, bytes...)
							for turns := range 7 {
								next(t, turns, s, q, wanted(turns, s, q))
							}
						}
					}
				})
			})
		}
	}
}

// goOn hands on messages of part bytes a turn until none is left, or often times; it tells what each turn was: the message's ID.
func goOn(turns, streams int, q []api.Queued, left []int, part, often int, look func(api.Sched)) []int {
	s := New(streams)
	q = slices.Clone(q)
	var ids []int
	for range often {
		i := Next(turns, s, q)
		if i < 0 {
			break
		}
		m := q[i]
		n := min(part, left[m.ID-10])
		left[m.ID-10] -= n
		over := left[m.ID-10] == 0
		s = Had(s, m, n, over)
		ids = append(ids, m.ID)
		if over {
			q = slices.Delete(q, i, i+1)
		}
		look(s)
	}
	return ids
}

func TestTurns(t *testing.T) {
	for turns, want := range map[int][]int{
		api.TurnsFirst: {10, 10, 11, 11, 11, 12, 13, 13, 14},
		api.TurnsRound: {11, 11, 11, 13, 13, 10, 10, 14, 12},
		api.TurnsParts: {11, 13, 10, 11, 13, 10, 11, 12, 14},
		api.TurnsRank:  {11, 11, 11, 14, 13, 13, 10, 10, 12},
		api.TurnsFair:  {11, 13, 10, 11, 13, 10, 12, 11, 14},
	} {
		got := goOn(turns, 3, waiting(2, 0, 2, 1, 0), []int{5, 9, 4, 8, 4}, 4, 100, func(api.Sched) {})
		if !slices.Equal(got, want) {
			t.Errorf("turns %d: %v, not %v", turns, got, want)
		}
	}
}

// Who waits has a turn: of streams that have much to tell, each has one in every round, and fair ones are no more than a part apart.
func TestNobodyHasMuchMore(t *testing.T) {
	for streams := 1; streams <= 4; streams++ {
		for part := 1; part <= 16; part++ {
			var q []api.Queued
			left := make([]int, streams)
			for stream := range slices.Backward(left) {
				q = append(q, message(10+stream, stream))
				left[stream] = math.MaxInt
			}
			for _, turns := range []int{api.TurnsParts, api.TurnsFair} {
				often := 0
				goOn(turns, streams, q, slices.Clone(left), part, 50, func(s api.Sched) {
					often++
					if slices.Max(s.Had)-slices.Min(s.Had) > part || often%streams == 0 && slices.Max(s.Had) != slices.Min(s.Had) {
						t.Errorf("turns %d, %d streams, parts of %d: they had %v", turns, streams, part, s.Had)
					}
				})
			}
		}
	}
}

// Round by round each stream has a message, whole, as long as some of it wait.
func TestMessagesStayWhole(t *testing.T) {
	q := waiting(0, 0, 0, 1, 1, 2)
	got := goOn(api.TurnsRound, 3, q, []int{3, 1, 2, 2, 3, 1}, 1, 100, func(api.Sched) {})
	want := []int{10, 10, 10, 13, 13, 15, 11, 14, 14, 14, 12, 12}
	if !slices.Equal(got, want) {
		t.Errorf("%v, not %v", got, want)
	}
}

// Many messages and many streams are gone through once, not one for each of the others.
func TestManyMessages(t *testing.T) {
	const many = 1 << 17
	q := make([]api.Queued, many)
	for i := range q {
		q[i] = message(i, many-1-i/2)
	}
	s := New(many)
	for i := range s.Had {
		s.Had[i] = many - i
	}
	low := many / 2 // the stream of the last two messages
	next(t, api.TurnsParts, s, q, many-2)
	next(t, api.TurnsRank, s, q, many-2)
	next(t, api.TurnsFair, s, q, 0)
	s.Last = low
	next(t, api.TurnsParts, s, q, many-4)
	next(t, api.TurnsRound, s, q, many-4)
	s.Hand = many - 1
	next(t, api.TurnsRound, s, q, many-1)
}
