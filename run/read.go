package run

import (
	"strings"

	"leafbinder/api"
	"leafbinder/dot"
)

// Words with which lines begin.
const (
	wordType  = "type"
	wordErase = "erase"
	wordCut   = "cut"
	wordFuse  = "fuse"
	wordSend  = "send"
	wordShow  = "show"
	wordParts = "parts"
	wordSame  = "same"
	wordWho   = "who"
)

const (
	maxDigits  = 4 // of a number of a line
	maxNumbers = 2
)

// command is a line that was read. What its row does not have is 0, or empty.
type command struct {
	word    string
	numbers [maxNumbers]int
	text    string
}

// form is what stands behind the word of a line: so many numbers, and a text if
// it has one.
type form struct {
	numbers int
	hasText bool
}

// unread is the error of a line that is none of the table's: it embeds what is
// wrong with it.
type unread struct{ error }

func (u unread) Unwrap() error { return u.error }

func read(line string) (command, error) {
	word, _, _ := strings.Cut(line, blank)
	f, is := formOf(word)
	if !is {
		return command{}, unread{api.ErrNone}
	}
	pieces, is := f.cut(line)
	if !is {
		return command{}, unread{api.ErrShape}
	}
	c := command{word: word}
	for i := range f.numbers {
		c.numbers[i], is = dot.Number(pieces[1+i], maxDigits)
		if !is {
			return command{}, unread{api.ErrSyntax}
		}
	}
	if f.hasText {
		c.text = pieces[1+f.numbers]
	}
	return c, nil
}

func formOf(word string) (form, bool) {
	switch word {
	case wordType:
		return form{numbers: 2, hasText: true}, true
	case wordErase, wordCut, wordFuse, wordSend:
		return form{numbers: 2}, true
	case wordShow, wordParts, wordWho:
		return form{numbers: 1}, true
	case wordSame:
		return form{}, true
	}
	return form{}, false
}

// cut a line into its word and what stands behind it, and tell whether that is
// as much as there should be. In a text blanks are letters: it is one piece.
func (f form) cut(line string) ([]string, bool) {
	want, most := 1+f.numbers, -1
	if f.hasText {
		want++
		most = want
	}
	pieces := strings.SplitN(line, blank, most)
	return pieces, len(pieces) == want
}
