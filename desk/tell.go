package desk

import (
	"strconv"
	"strings"

	"hasse/api"
	"hasse/canon"
	"hasse/chain"
	"hasse/extend"
	"hasse/level"
	"hasse/scribe"
	"hasse/sets"
)

func show(s shelf, words []string) (string, api.Errno) {
	text, err := scribe.Print(s[words[0]])
	return strings.ReplaceAll(text, " ", ","), err
}

func rows(s shelf, words []string) (string, api.Errno) {
	count, err := extend.Count(s[words[0]])
	return strconv.Itoa(count), err
}

func wide(s shelf, words []string) (string, api.Errno) {
	widest, err := chain.Widest(s[words[0]])
	return strconv.Itoa(sets.Size(widest)), err
}

func long(s shelf, words []string) (string, api.Errno) {
	longest, err := level.Longest(s[words[0]])
	return strconv.Itoa(len(longest)), err
}

func alike(s shelf, words []string) (string, api.Errno) {
	are, err := canon.Alike(s[words[0]], s[words[1]])
	if are {
		return "yes", err
	}
	return "no", err
}

func tellNames(s shelf, _ []string) (string, api.Errno) {
	return strings.Join(s.names(), " "), api.OK
}
