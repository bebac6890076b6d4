// Package names tells what may be a name: of an event, and of a commit.
package names

import "lammastide/api"

// Is this a name: 1 to api.MaxName small letters and digits?
func Is(s string) bool {
	for i := range len(s) {
		isLetter := s[i] >= 'a' && s[i] <= 'z'
		isDigit := s[i] >= '0' && s[i] <= '9'
		if !isLetter && !isDigit {
			return false
		}
	}
	return len(s) >= 1 && len(s) <= api.MaxName
}
