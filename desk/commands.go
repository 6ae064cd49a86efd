package desk

import (
	"slices"
	"strings"

	"hasse/api"
)

// command is what a line can begin with.
type command struct {
	word  string
	names int  // how many names stand behind it
	texts int  // how many texts stand behind these
	gives bool // whether the first name is given an order: from the others something is taken
	run   func(s shelf, words []string) (string, api.Errno)
}

// commands of the desk, made when the program starts. They stand beside makeCommands: Run reads them, but its answers hang on nothing that is kept.
var commands = makeCommands()

// makeCommands is asked anew by each line, so that what a line answers is told by this function alone.
func makeCommands() []command {
	return []command{
		{word: "put", names: 1, texts: 1, gives: true, run: shelf.put},
		{word: "drop", names: 1, run: shelf.drop},
		{word: "dual", names: 2, gives: true, run: shelf.dual},
		{word: "beside", names: 3, gives: true, run: shelf.beside},
		{word: "over", names: 3, gives: true, run: shelf.over},
		{word: "times", names: 3, gives: true, run: shelf.times},
		{word: "show", names: 1, run: show},
		{word: "rows", names: 1, run: rows},
		{word: "wide", names: 1, run: wide},
		{word: "long", names: 1, run: long},
		{word: "alike", names: 2, run: alike},
		{word: "names", run: tellNames},
	}
}

// maxWords is one more than the longest line may have, so that too many are seen without parting all of them.
const maxWords = 5

// parse a line: its command, and the words behind that.
func parse(line string) (command, []string, bool) {
	words := strings.SplitN(line, " ", maxWords)
	c, is := find(words[0])
	words = words[1:]
	if !is || len(words) != c.names+c.texts || !areNames(words[:c.names]) || slices.Contains(words, "") {
		return command{}, nil, false
	}
	return c, words, true
}

// find the command that a word is.
func find(word string) (command, bool) {
	for _, c := range makeCommands() {
		if c.word == word {
			return c, true
		}
	}
	return command{}, false
}

// taken: those of the words that must be names of the desk.
func (c command) taken(words []string) []string {
	if c.gives {
		return words[1:c.names]
	}
	return words[:c.names]
}
