package expand

import (
	"iter"
	"slices"

	"lammastide/api"
	"lammastide/day"
	"lammastide/rule"
)

const (
	weekDays   = 7
	yearMonths = 12
)

// Days of a start and a rule, rising, as long as they are asked for; none where one of the two is not well.
func Days(start int, r api.Rule) iter.Seq[int] {
	// They may be asked for when the caller's list is another one.
	r.Days = slices.Clone(r.Days)
	return func(yield func(int) bool) {
		if check(start, r) != nil {
			return
		}
		told := 0
		for d := range candidates(start, r) {
			if r.Until >= 0 && d > r.Until {
				return
			}
			if !yield(d) {
				return
			}
			told++
			// A Count of 0 is never met here, and so sets no end.
			if told == r.Count {
				return
			}
		}
	}
}

// candidates: the days that there are ahead of Count and Until, of a start and a rule that are known to be well.
func candidates(start int, r api.Rule) iter.Seq[int] {
	switch r.Freq {
	case rule.Daily:
		return byDays(start, r.Every)
	case rule.Weekly:
		return byWeeks(start, r.Every, r.Days)
	case rule.Monthly:
		return byMonths(start, r.Every)
	case rule.Yearly:
		return byMonths(start, r.Every*yearMonths)
	}
	return func(yield func(int) bool) { yield(start) }
}

func byDays(start, every int) iter.Seq[int] {
	return func(yield func(int) bool) {
		for d := start; d <= api.MaxDay; d += every {
			if !yield(d) {
				return
			}
		}
	}
}

func byWeeks(start, every int, weekdays []int) iter.Seq[int] {
	return func(yield func(int) bool) {
		first, _ := day.Week(start)
		if len(weekdays) == 0 {
			weekdays = []int{first}
		}
		// The first Monday may lie ahead of day 0: no day itself, but the week begins there.
		for monday := start - first; monday <= api.MaxDay; monday += every * weekDays {
			for _, w := range weekdays {
				d := monday + w
				if d < start {
					continue
				}
				if d > api.MaxDay || !yield(d) {
					return
				}
			}
		}
	}
}

func byMonths(start, every int) iter.Seq[int] {
	return func(yield func(int) bool) {
		left := monthsLeft(start)
		for months := 0; months <= left; months += every {
			// Counted from the start each time: a month that is too short does not bring the later ones down.
			if d, is := day.Add(start, months); is && !yield(d) {
				return
			}
		}
	}
}

// monthsLeft from a day's month to the last one that there is.
func monthsLeft(n int) int {
	y, m, _, _ := day.Date(n)
	return (api.LastYear-y)*yearMonths + yearMonths - m
}
