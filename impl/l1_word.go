// Package impl: signals over several nodes that always say one thing.
package impl

import (
	"errors"
	"strconv"
)

// Limits of texts.
const (
	BodyMaxText   = 1500
	BodyMaxDigits = 18
	BodyMaxWord   = 8
)

// Kinds of words.
const (
	WordNumber = 1
	WordName   = 2
	WordKey    = 3
	WordSign   = 4
)

// What is wrong with a text.
const (
	BodyLong   = 1
	BodyByte   = 2
	BodyNumber = 3
	BodyName   = 4
	BodyToken  = 5
	BodyMany   = 6
	BodyDeep   = 7
)

// Word is a word of a text.
type Word struct {
	Kind int
	Text string
	At   int
}

// Fault is what is wrong, and at which byte.
type Fault struct {
	Code int
	At   int
}

// bodyError is what is wrong with a text.
type bodyError struct {
	code int
}

func (e bodyError) Error() string {
	return "body: fault " + strconv.Itoa(e.code)
}

// placedError is an error with the byte at which it was met.
type placedError struct {
	at    int
	wrong error
}

func (e placedError) Error() string {
	return e.wrong.Error() + " at byte " + strconv.Itoa(e.at)
}

func (e placedError) Unwrap() error {
	return e.wrong
}

func wrongAt(code int, at int) error {
	return placedError{at: at, wrong: bodyError{code: code}}
}

// faultOf is what an error tells to those outside; nothing where there is none.
func faultOf(err error) Fault {
	var placed placedError
	var wrong bodyError
	if errors.As(err, &placed) && errors.As(err, &wrong) {
		return Fault{Code: wrong.code, At: placed.at}
	}
	return Fault{}
}

// keySet holds the words of the language; it is made for each call, as no map stands at package level.
type keySet map[string]struct{}

func newKeySet() keySet {
	return keySet{
		"abs": {}, "and": {}, "as": {}, "by": {}, "else": {}, "from": {}, "if": {}, "in": {},
		"let": {}, "max": {}, "min": {}, "not": {}, "or": {}, "rep": {}, "then": {},
	}
}

func (k keySet) has(s string) bool {
	_, ok := k[s]
	return ok
}

// isName asks a set that is there already, so that whoever has many names makes only one.
func (k keySet) isName(s string) bool {
	if len(s) < 1 || len(s) > BodyMaxWord || k.has(s) {
		return false
	}
	for at, r := range s {
		if !isLetter(r) && (at == 0 || !isDigit(r)) {
			return false
		}
	}
	return true
}

func isLetter(r rune) bool {
	return r >= 'a' && r <= 'z'
}

func isDigit(r rune) bool {
	return r >= '0' && r <= '9'
}

func isSign(s string) bool {
	switch s {
	case "!=", "<=", ">=", "(", ")", ",", "+", "-", "*", "/", "%", "=", "<", ">":
		return true
	}
	return false
}

func numberOk(digits string) bool {
	return len(digits) <= BodyMaxDigits && (len(digits) == 1 || digits[0] != '0')
}

// BodyKey tells whether a text is a word of the language.
func BodyKey(s string) bool {
	return newKeySet().has(s)
}

// BodyNameOk tells whether a text may name something.
func BodyNameOk(s string) bool {
	return newKeySet().isName(s)
}

// BodyWords cuts a text into words.
func BodyWords(text string) ([]Word, Fault) {
	words, err := cutWords(text)
	if err != nil {
		return nil, faultOf(err)
	}
	return words, Fault{}
}

// cutter has the words so far, and the one that is not ended yet: its kind (0: there is none) and its first byte.
type cutter struct {
	text  string
	keys  keySet
	words []Word
	open  int
	start int
}

func cutWords(text string) ([]Word, error) {
	if len(text) > BodyMaxText {
		return nil, wrongAt(BodyLong, 0)
	}
	c := cutter{text: text, keys: newKeySet()}
	for at, r := range text {
		if c.goesOn(at, r) {
			continue
		}
		if err := c.end(at); err != nil {
			return nil, err
		}
		c.begin(at, r)
	}
	if err := c.end(len(text)); err != nil {
		return nil, err
	}
	return c.words, nil
}

// goesOn tells whether a rune belongs to the open word.
func (c *cutter) goesOn(at int, r rune) bool {
	switch c.open {
	case WordNumber:
		return isDigit(r)
	case WordName:
		return isLetter(r) || isDigit(r)
	case WordSign:
		return r == '=' && isSign(c.text[c.start:at]+"=")
	}
	return false
}

// begin opens a word. What is no sign is opened as one, too: only at its end it is known whether a "!" is one.
func (c *cutter) begin(at int, r rune) {
	c.start = at
	switch {
	case r == ' ':
		c.open = 0
	case isDigit(r):
		c.open = WordNumber
	case isLetter(r):
		c.open = WordName
	default:
		c.open = WordSign
	}
}

// end closes the open word, if there is one, ahead of the byte at that place.
func (c *cutter) end(at int) error {
	if c.open == 0 {
		return nil
	}
	word := Word{Kind: c.open, Text: c.text[c.start:at], At: c.start}
	switch {
	case word.Kind == WordNumber && !numberOk(word.Text):
		return wrongAt(BodyNumber, c.start)
	case word.Kind == WordName && len(word.Text) > BodyMaxWord:
		return wrongAt(BodyName, c.start)
	case word.Kind == WordSign && !isSign(word.Text):
		return wrongAt(BodyByte, c.start)
	case word.Kind == WordName && c.keys.has(word.Text):
		word.Kind = WordKey
	}
	c.words = append(c.words, word)
	return nil
}
