package query

import (
	"bytes"
	"cmp"
	"slices"
	"strings"

	"strata/api"
	"strata/cell"
)

// condition tells whether it holds for a cell. The parts of a greater one are kept in its closure.
type condition func(api.Cell) bool

// ParseWhere reads a condition: its canonical text, or where it is none.
func ParseWhere(s api.Schema, text string) (string, api.Errno, int) {
	if err := cell.CheckSchema(s); err != api.OK {
		return "", err, 0
	}
	if len(text) > api.MaxWhere {
		return "", api.ErrWhere, api.MaxWhere
	}
	r := newReader(s, text)
	r.readCond()
	if r.ahead.kind != textEnd {
		return "", api.ErrWhere, r.ahead.at
	}
	return spell(r.words), api.OK, 0
}

// conditionOf is what a text means that is empty, or that ParseWhere takes.
func conditionOf(s api.Schema, text string) condition {
	if text == "" {
		return func(api.Cell) bool { return true }
	}
	return newReader(s, text).readCond()
}

// spell lays words one behind the other as the canonical text has them.
func spell(words []string) string {
	var out strings.Builder
	for i, w := range words {
		if i > 0 && words[i-1] != "(" && w != ")" {
			out.WriteByte(' ')
		}
		out.WriteString(w)
	}
	return out.String()
}

// reader reads a condition from the left, one word ahead. Whatever it gives up at is the word ahead, so that word's place is the one that is told.
type reader struct {
	schema api.Schema
	text   string
	ahead  word
	words  []string // those that have been taken, as the canonical text has them
	open   int      // brackets and nots
}

func newReader(s api.Schema, text string) *reader {
	return &reader{schema: s, text: text, ahead: readWord(text, 0)}
}

// giveUp leaves a word ahead that may stand nowhere, in the place of the one that may not stand here: so no way goes on, and the place stays.
func (r *reader) giveUp() condition {
	r.ahead = word{at: r.ahead.at}
	return nil
}

func (r *reader) step() {
	r.words = append(r.words, r.ahead.text)
	r.ahead = readWord(r.text, r.ahead.end)
}

// sees tells whether that sign or name is ahead. (No string and no number is spelt like one.)
func (r *reader) sees(text string) bool { return r.ahead.text == text }

func (r *reader) take(text string) bool {
	if !r.sees(text) {
		return false
	}
	r.step()
	return true
}

// takeOneOf takes the sign that is ahead, if it is one of these.
func (r *reader) takeOneOf(signs ...string) string {
	sign := r.ahead.text
	if !slices.Contains(signs, sign) {
		r.giveUp()
		return ""
	}
	r.step()
	return sign
}

func (r *reader) takeKind(kind int) word {
	w := r.ahead
	if w.kind != kind {
		r.giveUp()
		return word{}
	}
	r.step()
	return w
}

func (r *reader) takeFamily() int {
	f := cell.Family(r.schema, r.ahead.text)
	if r.ahead.kind != nameWord || f < 0 {
		r.giveUp()
		return 0
	}
	r.step()
	return f
}

func (r *reader) readCond() condition {
	c := r.readTerm()
	for r.take("or") {
		c = either(c, r.readTerm())
	}
	return c
}

func (r *reader) readTerm() condition {
	c := r.readFact()
	for r.take("and") {
		c = both(c, r.readFact())
	}
	return c
}

func (r *reader) readFact() condition {
	if !r.sees("not") && !r.sees("(") {
		return r.readTest()
	}
	if r.open == api.MaxDepth {
		return r.giveUp()
	}
	r.open++
	var c condition
	if r.take("not") {
		c = negated(r.readFact())
	} else {
		r.step()
		c = r.readCond()
		r.takeOneOf(")")
	}
	r.open--
	return c
}

func (r *reader) readTest() condition {
	switch {
	case r.take("fam"):
		sign := r.takeOneOf("=", "!=")
		f := r.takeFamily()
		return compared(sign, func(c api.Cell) int { return cmp.Compare(c.Fam, f) })
	case r.take("qual"):
		return r.readBytesTest(func(c api.Cell) []byte { return c.Qual })
	case r.take("value"):
		return r.readBytesTest(func(c api.Cell) []byte { return c.Value })
	case r.take("ts"):
		sign := r.takeOneOf("=", "!=", "<", "<=", ">", ">=")
		n := r.takeKind(numberWord).number
		return compared(sign, func(c api.Cell) int { return cmp.Compare(c.Ts, n) })
	}
	return r.giveUp()
}

// readBytesTest reads what is asked of one of a cell's byte strings.
func (r *reader) readBytesTest(of func(api.Cell) []byte) condition {
	sign := r.takeOneOf("=", "!=", "<", "<=", ">", ">=", "^")
	value := r.takeKind(stringWord).value
	if sign == "^" {
		return func(c api.Cell) bool { return bytes.HasPrefix(of(c), value) }
	}
	return compared(sign, func(c api.Cell) int { return bytes.Compare(of(c), value) })
}

// compared is a test by how a cell compares with what the test names.
func compared(sign string, compare func(api.Cell) int) condition {
	switch sign {
	case "=":
		return func(c api.Cell) bool { return compare(c) == 0 }
	case "!=":
		return func(c api.Cell) bool { return compare(c) != 0 }
	case "<":
		return func(c api.Cell) bool { return compare(c) < 0 }
	case "<=":
		return func(c api.Cell) bool { return compare(c) <= 0 }
	case ">":
		return func(c api.Cell) bool { return compare(c) > 0 }
	case ">=":
		return func(c api.Cell) bool { return compare(c) >= 0 }
	}
	// The reader has given up: nobody asks it.
	return nil
}

func negated(a condition) condition {
	return func(c api.Cell) bool { return !a(c) }
}

func both(a, b condition) condition {
	return func(c api.Cell) bool { return a(c) && b(c) }
}

func either(a, b condition) condition {
	return func(c api.Cell) bool { return a(c) || b(c) }
}
