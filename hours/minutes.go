package hours

import (
	"iter"
	"slices"

	"overflight/api"
)

// minutes says of each minute of the day whether it is in a set.
type minutes [api.MaxMinute]bool

// minutesOf returns the minutes of a list. It looks at the ends of spans only, so that many long spans take no longer than short ones.
func minutesOf(l []api.Span) (m minutes) {
	var changes [api.MaxMinute + 1]int
	for _, s := range l {
		if s.From < s.To {
			changes[inDay(s.From)]++
			changes[inDay(s.To)]--
		}
	}
	spans := 0
	for i := range m {
		spans += changes[i]
		m[i] = spans > 0
	}
	return m
}

// inDay returns the end of a span, moved to the nearest end of the day if it lies outside.
func inDay(end int) int { return min(max(end, 0), api.MaxMinute) }

// longest yields a span for each longest sequence of consecutive minutes of a set, in order.
func longest(m minutes) iter.Seq[api.Span] {
	return func(yield func(api.Span) bool) {
		from := 0 // all minutes since then are in the set
		for i, in := range m {
			if in {
				continue
			}
			if from < i && !yield(api.Span{From: from, To: i}) {
				return
			}
			from = i + 1
		}
		if from < len(m) {
			yield(api.Span{From: from, To: len(m)})
		}
	}
}

// combined returns the normal list of the minutes for which a condition holds.
func combined(a, b []api.Span, condition func(inA, inB bool) bool) []api.Span {
	inA, inB := minutesOf(a), minutesOf(b)
	var m minutes
	for i := range m {
		m[i] = condition(inA[i], inB[i])
	}
	return slices.Collect(longest(m))
}
