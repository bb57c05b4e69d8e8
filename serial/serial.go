// Package serial has numbers that go round, and spans of numbers: see doc/01-serial.md.
package serial

import "braidline/api"

// Tag is the rest of n by MaxTag, from 0 on.
func Tag(n int) int {
	rest := n % api.MaxTag
	if rest < 0 {
		rest += api.MaxTag
	}
	return rest
}

// Near is the number of tag's Tag that is less than half of MaxTag below near, or at most half of it above.
func Near(near, tag int) int {
	// Of tags, not of the numbers: their difference can't run over.
	above := Tag(Tag(tag) - Tag(near))
	if above > api.MaxTag/2 {
		above -= api.MaxTag
	}
	return near + above
}

// Add is l with n in, in as few spans as may be; l's spans rise, with at least one number between each two.
func Add(l []api.Span, n int) []api.Span {
	from := first(l, func(s api.Span) bool { return !apart(s.To, n) })
	to := from + first(l[from:], func(s api.Span) bool { return apart(n, s.From) })
	one := api.Span{From: n, To: n}
	for _, s := range l[from:to] {
		one.From = min(one.From, s.From)
		one.To = max(one.To, s.To)
	}
	out := make([]api.Span, 0, from+1+len(l)-to)
	out = append(out, l[:from]...)
	out = append(out, one)
	return append(out, l[to:]...)
}

// Has tells whether a span of l, whatever spans these are, has n.
func Has(l []api.Span, n int) bool {
	return first(l, func(s api.Span) bool { return s.From <= n && n <= s.To }) < len(l)
}

// Up is how far it goes on from cum without a gap, and the spans that are left above that; l's spans are as those of Add.
func Up(l []api.Span, cum int) (int, []api.Span) {
	left := first(l, func(s api.Span) bool {
		if apart(cum, s.From) {
			return true
		}
		cum = max(cum, s.To)
		return false
	})
	// A piece of l would be the caller's memory: what is left is copied.
	return cum, append([]api.Span(nil), l[left:]...)
}

// first is the place of the first span that is so, or len(l); those ahead of it are asked in turn, each once.
func first(l []api.Span, so func(api.Span) bool) int {
	for i, s := range l {
		if so(s) {
			return i
		}
	}
	return len(l)
}

// apart tells whether there is a number between low and high.
func apart(low, high int) bool {
	// low is held against high first: one more than the greatest number would go round.
	return low < high && low+1 < high
}
