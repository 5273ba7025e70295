package serial

import (
	"strings"

	"guilloche/api"
)

const (
	minAlphabet = 2
	maxAlphabet = 36
)

func isWellFormed(s api.Scheme) bool {
	return isAlphabet(s.Alphabet) &&
		s.Length >= 1 && s.Length <= api.MaxLength &&
		areBans(s.Banned, s.Alphabet) &&
		(!s.Check || len(s.Alphabet)%2 == 0)
}

func isAlphabet(s string) bool {
	if len(s) < minAlphabet || len(s) > maxAlphabet {
		return false
	}
	for i, sign := range s {
		digit := sign >= '0' && sign <= '9'
		letter := sign >= 'A' && sign <= 'Z'
		if !digit && !letter || strings.ContainsRune(s[:i], sign) {
			return false
		}
	}
	return true
}

func areBans(list []string, alphabet string) bool {
	if len(list) > api.MaxBanned {
		return false
	}
	for _, ban := range list {
		if len(ban) < 1 || len(ban) > api.MaxBan || !consistsOf(ban, alphabet) {
			return false
		}
	}
	return true
}

func consistsOf(s, alphabet string) bool {
	for _, sign := range s {
		if !strings.ContainsRune(alphabet, sign) {
			return false
		}
	}
	return true
}
