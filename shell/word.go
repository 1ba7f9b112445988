package shell

import (
	"strconv"
	"strings"

	"strata/api"
	"strata/cell"
)

// Kinds of words.
const (
	nameWord = iota
	commaWord
	numberWord
	literalWord
)

// word is a word of a line, and what it says.
type word struct {
	kind   int
	text   string // of a name and of a comma
	number int
	value  []byte // of a literal
}

// readLine reads the words of a line; false: it is no line.
func readLine(line string) ([]word, bool) {
	var l []word
	for _, text := range cut(line) {
		w, is := readWord(text)
		if !is {
			return nil, false
		}
		l = append(l, w)
	}
	return l, true
}

// cut parts a line at its blanks and tabs, but for those in literals, up to a remark. What stands between may be no word, and then what is behind it does not matter.
func cut(line string) []string {
	var out []string
	begin, quoted, escaped := -1, false, false
	for at, r := range line {
		blank := r == ' ' || r == '\t'
		switch {
		case escaped:
			escaped = false
		case quoted:
			escaped, quoted = r == '\\', r != '"'
		case blank && begin >= 0:
			out = append(out, line[begin:at])
			begin = -1
		case blank || begin >= 0:
		case r == '#':
			return out
		default:
			begin, quoted = at, r == '"'
		}
	}
	if begin >= 0 {
		out = append(out, line[begin:])
	}
	return out
}

// readWord reads a text that is to be one word.
func readWord(text string) (word, bool) {
	switch c := text[0]; {
	case c == '"':
		value, is := readLiteral(text)
		return word{kind: literalWord, value: value}, is
	case isDigit(c) || c == '-':
		n, is := readNumber(text)
		return word{kind: numberWord, number: n}, is
	case isLetter(c):
		return word{kind: nameWord, text: text}, isName(text)
	}
	return word{kind: commaWord, text: text}, text == comma
}

const comma = ","

func isLetter(c byte) bool { return 'a' <= c && c <= 'z' }

func isDigit(c byte) bool { return '0' <= c && c <= '9' }

// isName is asked of what begins with a letter.
func isName(text string) bool {
	for i := range len(text) {
		if c := text[i]; !isLetter(c) && !isDigit(c) && c != '_' {
			return false
		}
	}
	return true
}

// readNumber takes a number only if it is spelt as it would be told.
func readNumber(text string) (int, bool) {
	n, err := strconv.Atoi(text)
	return n, err == nil && strconv.Itoa(n) == text
}

// readLiteral reads what begins as a literal.
func readLiteral(text string) ([]byte, bool) {
	var out []byte
	for at := 1; at < len(text); {
		if text[at] == '"' {
			return out, at == len(text)-1
		}
		c, size := readByte(text[at:])
		if size == 0 {
			break
		}
		out = append(out, c)
		at += size
	}
	return nil, false
}

// readByte reads what stands for one byte within a literal, and how many bytes it takes there; 0: it may not stand there.
func readByte(text string) (byte, int) {
	switch {
	case text[0] < ' ':
		return 0, 0
	case text[0] != '\\':
		return text[0], 1
	case len(text) >= 2 && isEscaped(text[1]):
		return text[1], 2
	case len(text) >= 4 && text[1] == 'x':
		high, low := strings.IndexByte(hexDigits, text[2]), strings.IndexByte(hexDigits, text[3])
		if high >= 0 && low >= 0 {
			return byte(high<<4 | low), 4
		}
	}
	return 0, 0
}

const hexDigits = "0123456789abcdef"

// isEscaped: such a byte would mean something else if it stood alone in a literal.
func isEscaped(c byte) bool { return c == '"' || c == '\\' }

// quote writes bytes as a literal.
func quote(b []byte) string {
	out := []byte{'"'}
	for _, c := range b {
		switch {
		case isEscaped(c):
			out = append(out, '\\', c)
		case c < ' ' || c > '~':
			out = append(out, '\\', 'x', hexDigits[c>>4], hexDigits[c&15])
		default:
			out = append(out, c)
		}
	}
	return string(append(out, '"'))
}

// words are those of a line that are still to be read, from the left. Where one does not fit, zero values are read from then on, and nothing is left: so nobody in between need ask.
type words struct {
	left    []word
	schema  api.Schema
	misfit  bool
	strange bool // the name of a family is none of the schema's
}

func (w *words) take(kind int) word {
	if len(w.left) == 0 || w.left[0].kind != kind {
		w.giveUp()
		return word{}
	}
	first := w.left[0]
	w.left = w.left[1:]
	return first
}

func (w *words) giveUp() {
	w.left = nil
	w.misfit = true
}

// skip passes over the next word, if it is this name, or this comma.
func (w *words) skip(text string) bool {
	if len(w.left) == 0 || w.left[0].text != text {
		return false
	}
	w.left = w.left[1:]
	return true
}

func (w *words) name() string { return w.take(nameWord).text }

func (w *words) number() int { return w.take(numberWord).number }

func (w *words) literal() []byte { return w.take(literalWord).value }

// family reads a family's name: its number.
func (w *words) family() int {
	n := cell.Family(w.schema, w.name())
	if n < 0 {
		w.strange = true
		return 0
	}
	return n
}

// areRead tells whether all words of the line fitted.
func (w *words) areRead() bool { return !w.misfit && len(w.left) == 0 }
