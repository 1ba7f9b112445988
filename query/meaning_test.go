package query_test

import (
	"math"
	"math/rand"
	"strings"
	"testing"

	"strata/api"
	"strata/query"
)

// holds tells whether a condition holds for a cell, by asking for it.
func holds(t *testing.T, s api.Schema, where string, c api.Cell) bool {
	t.Helper()
	q := api.Query{N: 1, Rows: 1, Where: where}
	p, err := query.Run(s, q, 9, &list{rows: []api.Row{{Row: []byte("r"), Cells: []api.Cell{c}}}})
	if err != api.OK {
		t.Fatalf("%q: %d", where, err)
	}
	return len(p.Rows) == 1
}

// 13.3: what the tests mean.
func TestWhatATestMeans(t *testing.T) {
	c := api.Cell{Fam: 1, Qual: []byte("qu"), Ts: 5, Value: []byte("v\x00\xff")}
	for _, x := range []struct {
		where string
		want  bool
	}{
		{`fam = b`, true}, {`fam = a`, false}, {`fam != b`, false}, {`fam != a`, true},
		{`qual = "qu"`, true}, {`qual = "q"`, false}, {`qual = "qua"`, false}, {`qual = ""`, false}, {`qual = "QU"`, false}, {`qual != "qu"`, false}, {`qual != "q"`, true},
		{`qual < "qu"`, false}, {`qual < "qua"`, true}, {`qual < "q"`, false}, {`qual < "r"`, true}, {`qual < "qv"`, true}, {`qual < "qt"`, false}, {`qual < "qtz"`, false}, {`qual < "\ff"`, true}, {`qual < ""`, false},
		{`qual <= "qu"`, true}, {`qual <= "qu\00"`, true}, {`qual <= "q"`, false}, {`qual > "qu"`, false}, {`qual > "q"`, true}, {`qual > ""`, true}, {`qual > "r"`, false}, {`qual >= "qu"`, true}, {`qual >= "qu\00"`, false}, {`qual >= "\00"`, true},
		{`qual ^ ""`, true}, {`qual ^ "q"`, true}, {`qual ^ "qu"`, true}, {`qual ^ "qua"`, false}, {`qual ^ "u"`, false},
		{`value = "v\00\ff"`, true}, {`value = "\76\00\ff"`, true}, {`value = "v"`, false}, {`value != "v"`, true}, {`value < "v\01"`, true}, {`value < "v\00\fe"`, false}, {`value <= "v\00\ff"`, true}, {`value > "v\00\7f"`, true}, {`value >= "v\00\ff"`, true}, {`value >= "w"`, false}, {`value ^ "v\00"`, true}, {`value ^ "\00"`, false},
		{`ts = 5`, true}, {`ts = 50`, false}, {`ts = 4`, false}, {`ts != 5`, false}, {`ts != 6`, true}, {`ts < 5`, false}, {`ts < 6`, true}, {`ts < 10`, true}, {`ts <= 5`, true}, {`ts <= 4`, false}, {`ts <= 40`, true}, {`ts > 5`, false}, {`ts > 4`, true}, {`ts > 40`, false}, {`ts >= 5`, true}, {`ts >= 6`, false}, {`ts >= 10`, false}, {`ts > 0`, true}, {`ts < 1099511627776`, true},
		// a string that is a word, and quotes within one
		{`qual = "and" or qual = "or"`, false}, {`value = "\"" or value = "\\"`, false},
		// what binds closest
		{`not ts = 5 and ts = 6`, false}, {`not (ts = 5 and ts = 6)`, true}, {`not ts = 6 or ts = 5`, true}, {`not (ts = 6 or ts = 5)`, false}, {`not ts = 5 or ts = 5`, true},
		{`ts = 5 or ts = 6 and ts = 7`, true}, {`(ts = 5 or ts = 6) and ts = 7`, false}, {`ts = 7 and ts = 6 or ts = 5`, true}, {`ts = 7 and (ts = 6 or ts = 5)`, false}, {`ts = 5 or not ts = 5 and ts = 6`, true},
		{`not not ts = 5`, true}, {`not not not ts = 5`, false}, {`not not (not ts = 5)`, false},
		{`ts = 1 or ts = 2 or ts = 3 or ts = 5`, true}, {`ts = 1 or ts = 2 or ts = 3`, false}, {`ts > 1 and ts > 2 and ts > 3 and ts > 4`, true}, {`ts > 1 and ts > 9 and ts > 3`, false},
	} {
		if got := holds(t, two, x.where, c); got != x.want {
			t.Errorf("%s: %v", x.where, got)
		}
	}
	// times that no source should show are compared as numbers too
	for _, ts := range []int{math.MinInt, -1, 0, 1 << 40, math.MaxInt} {
		w := api.Cell{Ts: ts}
		if holds(t, two, "ts < 1", w) != (ts < 1) || holds(t, two, "ts > 1099511627776", w) != (ts > 1<<40) || holds(t, two, "ts = 0", w) != (ts == 0) {
			t.Errorf("ts %d", ts)
		}
	}
	// nothing in a cell
	none := api.Cell{Fam: 0, Ts: 1}
	for where, want := range map[string]bool{`qual = ""`: true, `qual ^ ""`: true, `value < "\00"`: true, `value >= ""`: true, `value > ""`: false, `qual ^ "\00"`: false, `qual < ""`: false} {
		if got := holds(t, two, where, none); got != want {
			t.Errorf("%s of an empty cell: %v", where, got)
		}
	}
}

// 13.3: a family is told by its name, also where that is a word of the language.
func TestFamiliesByName(t *testing.T) {
	for f, name := range []string{"and", "not", "fam_0"} {
		for g := range three.Fams {
			c := api.Cell{Fam: g, Ts: 1}
			if holds(t, three, "fam = "+name, c) != (f == g) || holds(t, three, "fam != "+name, c) != (f != g) {
				t.Errorf("fam = %s of the family %d", name, g)
			}
		}
	}
}

// 13.3, 13.10: drawn conditions mean what they say; so does the canonical text, whose canonical text is itself; not, and, or are as they say.
func TestDrawnMeanings(t *testing.T) {
	r := rand.New(rand.NewSource(1310))
	seen := [2]int{}
	for i := range 15000 {
		s := []api.Schema{two, three}[i%2]
		words := drawCond(r, s, r.Intn(5))
		text := lay(r, words)
		canon, err, _ := query.ParseWhere(s, text)
		if err != api.OK {
			if len(text) <= 512 {
				t.Fatalf("%q: %d", text, err)
			}
			continue
		}
		c := drawCell(r, s)
		is := holds(t, s, text, c)
		if is != wantHolds(s, words, c) {
			t.Fatalf("%q of %v: %v", text, c, is)
		}
		seen[map[bool]int{true: 1}[is]]++
		if len(canon) > 500 {
			continue
		}
		again, err, _ := query.ParseWhere(s, canon)
		if again != canon || err != api.OK {
			t.Fatalf("%q: %q, %d", canon, again, err)
		}
		if holds(t, s, canon, c) != is || holds(t, s, "not ("+canon+")", c) == is {
			t.Fatalf("%q of %v", canon, c)
		}
		other := strings.Join(drawTest(r, s), " ")
		too := holds(t, s, other, c)
		if len(canon)+len(other) < 480 {
			if holds(t, s, "("+canon+") and "+other, c) != (is && too) || holds(t, s, other+" or ("+canon+")", c) != (is || too) {
				t.Fatalf("%q and %q of %v", canon, other, c)
			}
		}
	}
	if seen[0] < 3000 || seen[1] < 3000 {
		t.Errorf("%v", seen)
	}
}

// 13.10: the canonical text is itself up to MaxWhere bytes.
func TestLongestCanonicalText(t *testing.T) {
	canon := `value = "` + strings.Repeat(`\00`, 160) + `" and ts > 3`
	canon += strings.Repeat(" ", 512-len(canon))
	text := strings.TrimSpace(canon)
	mustWhere(t, two, canon, text)
	full := text[:len(text)-1] + "1099511627776"
	full = strings.Replace(full, `\00`, strings.Repeat("x", 512-len(full)+3), 1)
	if len(full) != 512 {
		t.Fatal(len(full))
	}
	mustWhere(t, two, full, full)
}
