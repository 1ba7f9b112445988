package query

import (
	"strings"

	"strata/api"
)

// Kinds of words.
const (
	noWord = iota // what may stand nowhere
	textEnd
	nameWord
	numberWord
	stringWord
	signWord
)

// word is a word of a condition: where it stands, how the canonical text spells it, and what it says.
type word struct {
	kind   int
	at     int
	end    int // behind its last byte
	text   string
	number int    // of a number
	value  []byte // of a string
}

// readWord reads the word at a place of a text, or behind the blanks there.
func readWord(text string, at int) word {
	for at < len(text) && text[at] == ' ' {
		at++
	}
	if at == len(text) {
		return word{kind: textEnd, at: at}
	}
	switch c := text[at]; {
	case isLetter(c):
		return readName(text, at)
	case isDigit(c):
		return readNumber(text, at)
	case c == '"':
		return readString(text, at)
	}
	return readSign(text, at)
}

func isLetter(c byte) bool { return 'a' <= c && c <= 'z' }

func isDigit(c byte) bool { return '0' <= c && c <= '9' }

func isShown(c byte) bool { return 0x20 <= c && c <= 0x7e }

func readName(text string, at int) word {
	end := at
	for end < len(text) && (isLetter(text[end]) || isDigit(text[end]) || text[end] == '_') {
		end++
	}
	return word{kind: nameWord, at: at, end: end, text: text[at:end]}
}

func readNumber(text string, at int) word {
	end, n := at, 0
	for end < len(text) && isDigit(text[end]) {
		n = 10*n + int(text[end]-'0')
		end++
		if n > api.MaxTime {
			return word{at: at}
		}
	}
	if text[at] == '0' && end > at+1 {
		return word{at: at}
	}
	return word{kind: numberWord, at: at, end: end, text: text[at:end], number: n}
}

func readSign(text string, at int) word {
	// The longer ones first: "<" begins "<=".
	for _, sign := range [...]string{"!=", "<=", ">=", "=", "<", ">", "^", "(", ")"} {
		if strings.HasPrefix(text[at:], sign) {
			return word{kind: signWord, at: at, end: at + len(sign), text: sign}
		}
	}
	return word{at: at}
}

func readString(text string, at int) word {
	var value []byte
	for i := at + 1; i < len(text); {
		if text[i] == '"' {
			return word{kind: stringWord, at: at, end: i + 1, text: quote(value), value: value}
		}
		c, size := readByte(text[i:])
		if size == 0 {
			break
		}
		value = append(value, c)
		i += size
	}
	return word{at: at}
}

// readByte reads what stands for one byte within a string, and how many bytes it takes there; 0: it may not stand there.
func readByte(text string) (byte, int) {
	switch {
	case text[0] != '\\':
		if !isShown(text[0]) {
			return 0, 0
		}
		return text[0], 1
	case len(text) >= 2 && isEscaped(text[1]):
		return text[1], 2
	case len(text) >= 3:
		high, low := strings.IndexByte(hexDigits, text[1]), strings.IndexByte(hexDigits, text[2])
		if high >= 0 && low >= 0 {
			return byte(high<<4 | low), 3
		}
	}
	return 0, 0
}

const hexDigits = "0123456789abcdef"

// isEscaped: such a byte would mean something else if it stood alone in a string.
func isEscaped(c byte) bool { return c == '"' || c == '\\' }

// quote writes a string as the canonical text has it.
func quote(value []byte) string {
	out := []byte{'"'}
	for _, c := range value {
		switch {
		case isEscaped(c):
			out = append(out, '\\', c)
		case isShown(c):
			out = append(out, c)
		default:
			out = append(out, '\\', hexDigits[c>>4], hexDigits[c&15])
		}
	}
	return string(append(out, '"'))
}
