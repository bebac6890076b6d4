package script

import (
	"cmp"
	"errors"
	"strconv"
	"strings"

	"lammastide/api"
	"lammastide/day"
	"lammastide/event"
	"lammastide/repo"
	"lammastide/wording"
)

// player of a script: a repository, with commands beside its own ones.
type player struct {
	*repo.Repo
	commands map[string]command // by their first words
}

// command with how many words stand behind its first one.
type command struct {
	words int
	do    func(words []string) (string, error)
}

func newPlayer() *player {
	p := &player{Repo: repo.New()}
	p.commands = map[string]command{
		"cut":   {1, p.cut},
		"again": {0, p.again},
		"pack":  {0, p.pack},
		"days":  {3, p.days},
		"texts": {0, p.texts},
	}
	return p
}

// play a line: a command of the player's, or else the repository's.
func (p *player) play(line string) (string, error) {
	verb, rest, isParted := strings.Cut(line, wording.Gap)
	c, is := p.commands[verb]
	if !is {
		return p.Do(line)
	}
	var words []string
	if isParted {
		words = strings.Split(rest, wording.Gap)
	}
	if len(words) != c.words {
		return "", api.ErrText
	}
	return c.do(words)
}

func (p *player) cut(words []string) (string, error) {
	n, is := wording.Number(words[0])
	if !is {
		return "", api.ErrText
	}
	return wording.AllRight, p.Tape().Cut(n)
}

func (p *player) again([]string) (string, error) {
	anew, err := repo.Open(p.Tape())
	if err != nil {
		return "", err
	}
	p.Repo = anew
	return wording.AllRight, nil
}

// pack: the most bytes that a pack may have. How many it has is free, and would not be the same answer everywhere.
func (p *player) pack([]string) (string, error) {
	texts := p.Graph().Pool()
	return strconv.Itoa(len(texts.Text()) + texts.Len()), nil
}

func (p *player) days(words []string) (string, error) {
	// The line is read whole ahead of what it asks for, as the repository reads its own.
	from, to, err := readSpan(words[1], words[2])
	if err != nil {
		return "", err
	}
	e, is := p.Work().Get(words[0])
	if !is {
		return "", api.ErrNone
	}
	days, err := event.Days(e, from, to)
	if err != nil {
		return "", err
	}
	var dates []string
	for _, d := range days {
		dates = append(dates, day.Text(d))
	}
	return wording.List(dates), nil
}

func (p *player) texts([]string) (string, error) {
	return strconv.Itoa(p.Graph().Pool().Len()), nil
}

// readSpan of days.
func readSpan(fromWord, toWord string) (from, to int, err error) {
	from, fromErr := day.Read(fromWord)
	to, toErr := day.Read(toWord)
	// A line that is made otherwise comes ahead of a day that there is not.
	if errors.Is(toErr, api.ErrText) {
		return 0, 0, toErr
	}
	return from, to, cmp.Or(fromErr, toErr)
}
