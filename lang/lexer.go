package lang

import (
	"strconv"
	"strings"
)

const (
	maxName   = 8
	maxDigits = 7
	signs     = "=(),<+-*/^[]"
)

// A lexer reads the words, numbers and signs of a line. What comes next is token: it is empty at the end of the line,
// and for good after something that does not fit, so that whatever reads on comes to its end.
type lexer struct {
	token, rest string
	failed      bool
}

func (l *lexer) fail() {
	*l = lexer{failed: true}
}

func (l *lexer) advance() {
	rest := strings.TrimLeft(l.rest, " ")
	length := tokenLength(rest)
	if rest != "" && length == 0 {
		l.fail()
		return
	}
	l.token, l.rest = rest[:length], rest[length:]
}

// tokenLength returns the length of the word, number or sign with which a text begins: 0 if there is none.
func tokenLength(text string) int {
	if text == "" {
		return 0
	}
	if strings.IndexByte(signs, text[0]) >= 0 {
		return 1
	}
	// A number ends where a word would: so 2m is neither.
	length := 0
	for length < len(text) && (isLetter(text[length]) || isDigit(text[length])) {
		length++
	}
	if !isWord(text[:length]) && !isNumber(text[:length]) {
		return 0
	}
	return length
}

func isLetter(c byte) bool { return 'a' <= c && c <= 'z' }

func isDigit(c byte) bool { return '0' <= c && c <= '9' }

func isWord(run string) bool {
	return run != "" && len(run) <= maxName && isLetter(run[0])
}

func isKeyword(word string) bool {
	switch word {
	case "unit", "let", "if", "then", "else", "root":
		return true
	}
	return false
}

func isNumber(run string) bool {
	for i := range len(run) {
		if !isDigit(run[i]) {
			return false
		}
	}
	return run == "0" || run != "" && len(run) <= maxDigits && run[0] != '0'
}

// ended reports whether the line has been read to its end.
func (l *lexer) ended() bool { return l.token == "" && !l.failed }

// accept reads a token if it is next.
func (l *lexer) accept(token string) bool {
	if l.token != token {
		return false
	}
	l.advance()
	return true
}

// expect reads a token that must be next.
func (l *lexer) expect(token string) {
	if !l.accept(token) {
		l.fail()
	}
}

// name reads a name, which must be next.
func (l *lexer) name() string {
	name := l.token
	if !isWord(name) || isKeyword(name) {
		l.fail()
		return ""
	}
	l.advance()
	return name
}

// exponent reads an exponent if there is one: otherwise it is 1.
func (l *lexer) exponent() int {
	if !l.accept("^") {
		return 1
	}
	negative := l.accept("-")
	digit := l.token
	if len(digit) != 1 || digit < "0" || digit > "3" || negative && digit == "0" {
		l.fail()
		return 0
	}
	l.advance()
	n := int(digit[0] - '0')
	if negative {
		return -n
	}
	return n
}

// number reads a number, which is next.
func (l *lexer) number() int {
	n, _ := strconv.Atoi(l.token)
	l.advance()
	return n
}
