package repo

import (
	"strings"

	"lammastide/api"
	"lammastide/wording"
)

// shape of a line: its command, and how many words stand behind that.
type shape struct {
	verb  string
	words int
}

// do a line, in place: its answer, and whether the tape keeps it. With an error the state is of no use any more.
func (s *state) do(line string) (answer string, isKept bool, err error) {
	verb, words := split(line)
	answer, err = s.run(verb, words)
	if err != nil {
		return "", false, err
	}
	return answer, isKeptOf(verb, answer), nil
}

func (s *state) run(verb string, words []string) (string, error) {
	switch (shape{verb, len(words)}) {
	case shape{"put", 1}:
		return s.put(words[0])
	case shape{"drop", 1}:
		return s.drop(words[0])
	case shape{"tick", 1}:
		return s.tick(words[0])
	case shape{"commit", 1}:
		return s.commit(words[0])
	case shape{"branch", 1}:
		return s.branch(words[0])
	case shape{"switch", 1}:
		return s.switchTo(words[0])
	case shape{"merge", 1}:
		return s.merge(words[0])
	case shape{"forget", 1}:
		return s.forget(words[0])
	case shape{"sweep", 0}:
		return s.sweep()
	case shape{"on", 1}:
		return s.on(words[0])
	case shape{"was", 3}:
		return s.was(words[0], words[1], words[2])
	case shape{"log", 0}:
		return s.log()
	case shape{"diff", 1}:
		return s.diff(words[0])
	case shape{"head", 0}:
		return s.head, nil
	}
	return "", api.ErrText
}

// split a line into its command and the words behind it.
func split(line string) (verb string, words []string) {
	verb, rest, isParted := strings.Cut(line, wording.Gap)
	switch {
	case !isParted:
		return verb, nil
	case verb == "put" || verb == "commit":
		// An event and a note may have blanks of their own.
		return verb, []string{rest}
	}
	return verb, strings.Split(rest, wording.Gap)
}

// isKeptOf a line that was done. The answer alone does not tell it: an event's ID may be `nothing`.
func isKeptOf(verb, answer string) bool {
	switch verb {
	case "on", "was", "log", "diff", "head":
		return false
	case "merge":
		return answer != wording.Nothing
	}
	return true
}
