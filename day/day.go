// Package day: days: see ../shared/doc/01-day.md.
package day

import (
	"strconv"

	"lammastide/api"
)

const (
	yearMonths   = 12
	allMonths    = (api.LastYear - api.FirstYear + 1) * yearMonths
	weekDays     = 7
	firstWeekday = 5 // day 0 is a Saturday
)

// Months: how many days a month has.
func Months(y, m int) int {
	if y < api.FirstYear || y > api.LastYear {
		return 0
	}
	switch m {
	case 1, 3, 5, 7, 8, 10, 12:
		return 31
	case 4, 6, 9, 11:
		return 30
	case 2:
		if isLeap(y) {
			return 29
		}
		return 28
	}
	return 0
}

// Make a day of a date.
func Make(y, m, d int) (int, error) {
	if d < 1 || d > Months(y, m) {
		return 0, api.ErrBound
	}
	n := d - 1
	for k := api.FirstYear; k < y; k++ {
		n += yearDays(k)
	}
	for k := 1; k < m; k++ {
		n += Months(y, k)
	}
	return n, nil
}

// Date of a day.
func Date(n int) (y, m, d int, err error) {
	if !isDay(n) {
		return 0, 0, 0, api.ErrBound
	}
	y, m = api.FirstYear, 1
	for n >= yearDays(y) {
		n -= yearDays(y)
		y++
	}
	for n >= Months(y, m) {
		n -= Months(y, m)
		m++
	}
	return y, m, n + 1, nil
}

// Week: the weekday.
func Week(n int) (int, error) {
	if !isDay(n) {
		return 0, api.ErrBound
	}
	return (n + firstWeekday) % weekDays, nil
}

// Add months to a day.
func Add(n, months int) (int, bool) {
	y, m, d, err := Date(n)
	if err != nil {
		return 0, false
	}
	at := (y-api.FirstYear)*yearMonths + m - 1
	// Held against what is left on either side, as at+months may wrap round.
	if months < -at || months >= allMonths-at {
		return 0, false
	}
	at += months
	to, err := Make(api.FirstYear+at/yearMonths, at%yearMonths+1, d)
	return to, err == nil
}

// Text of a day.
func Text(n int) string {
	y, m, d, err := Date(n)
	if err != nil {
		return ""
	}
	return strconv.Itoa(y) + "-" + twoDigits(m) + "-" + twoDigits(d)
}

// Read a day.
func Read(s string) (int, error) {
	if !isDateText(s) {
		return 0, api.ErrText
	}
	return Make(number(s[:4]), number(s[5:7]), number(s[8:]))
}

func isDay(n int) bool { return n >= 0 && n <= api.MaxDay }

func isLeap(y int) bool { return y%4 == 0 && (y%100 != 0 || y%400 == 0) }

func yearDays(y int) int {
	if isLeap(y) {
		return 366
	}
	return 365
}

func twoDigits(n int) string {
	if n < 10 {
		return "0" + strconv.Itoa(n)
	}
	return strconv.Itoa(n)
}

func isDateText(s string) bool {
	if len(s) != len("YYYY-MM-DD") {
		return false
	}
	for i := range len(s) {
		if i == 4 || i == 7 {
			if s[i] != '-' {
				return false
			}
		} else if s[i] < '0' || s[i] > '9' {
			return false
		}
	}
	return true
}

// number of a text that is known to be digits, few enough for an int.
func number(s string) int {
	n := 0
	for i := range len(s) {
		n = n*10 + int(s[i]-'0')
	}
	return n
}
