package cell_test

import (
	"math"
	"strings"
	"testing"

	"strata/api"
	"strata/cell"
)

func named(names ...string) api.Schema {
	var s api.Schema
	for _, n := range names {
		s.Fams = append(s.Fams, api.Family{Name: n, Max: 1})
	}
	return s
}

func one(name string, most, ttl int) api.Schema {
	return api.Schema{Fams: []api.Family{{Name: name, Max: most, TTL: ttl}}}
}

// 2.9
func TestCheckSchemaTakes(t *testing.T) {
	for i, s := range []api.Schema{
		named("a"), named("z"), named("a0"), named("a9_"), named("az"), named("a_", "a"), named(strings.Repeat("x", 32)),
		named("a", "b", "c", "d", "e", "f", "g", "h"),
		one("a", 1, 0), one("a", 16, 0), one("a", 1, 1), one("a", 16, 1<<40),
	} {
		if err := cell.CheckSchema(s); err != api.OK {
			t.Errorf("%d: CheckSchema(%+v) = %d", i, s, err)
		}
	}
}

// 2.9
func TestCheckSchemaRefuses(t *testing.T) {
	for i, s := range []api.Schema{
		{}, {Fams: []api.Family{}}, named("a", "b", "c", "d", "e", "f", "g", "h", "i"), {Fams: make([]api.Family, 1)},
		named(""), named("a", ""), named(strings.Repeat("x", 33)),
		named("a", "a"), named("a", "b", "a"), named("a", "b", "b"),
		named("A"), named("1a"), named("_a"), named("_"), named("0"),
		named("aA"), named("a-"), named("a b"), named("a\x00"), named("a:"), named("a/"), named("a`"), named("a{"), named("`"), named("{"),
		named("a\xff"), named("ä"), named("aä"), named("a."),
		one("a", 0, 0), one("a", 17, 0), one("a", -1, 0), one("a", math.MaxInt, 0), one("a", math.MinInt, 0),
		one("a", 1, -1), one("a", 1, 1<<40+1), one("a", 1, math.MinInt), one("a", 1, math.MaxInt),
		{Fams: []api.Family{{Name: "a", Max: 1}, {Name: "b", Max: 0}}},
		{Fams: []api.Family{{Name: "a", Max: 1}, {Name: "b", Max: 1, TTL: -1}}},
	} {
		if err := cell.CheckSchema(s); err != api.ErrSchema {
			t.Errorf("%d: CheckSchema(%+v) = %d, want ErrSchema", i, s, err)
		}
	}
}

// 2.9: just these bytes stand in a name, just the letters at its beginning.
func TestCheckSchemaEachByte(t *testing.T) {
	const letters, others = "abcdefghijklmnopqrstuvwxyz", "0123456789_"
	for c := range 256 {
		b := string([]byte{byte(c)})
		first, later := api.ErrSchema, api.ErrSchema
		if strings.Contains(letters, b) {
			first = api.OK
		}
		if strings.Contains(letters+others, b) {
			later = api.OK
		}
		if err := cell.CheckSchema(named(b)); err != first {
			t.Errorf("the name %q: %d, want %d", b, err, first)
		}
		if err := cell.CheckSchema(named("a" + b + "z")); err != later {
			t.Errorf("the name %q: %d, want %d", "a"+b+"z", err, later)
		}
		if err := cell.CheckSchema(named("a" + b)); err != later {
			t.Errorf("the name %q: %d, want %d", "a"+b, err, later)
		}
	}
}

// 2.10
func TestFamily(t *testing.T) {
	many := named(strings.Split(strings.Repeat("x,", 300)+"y", ",")...)
	for i, x := range []struct {
		s    api.Schema
		name string
		want int
	}{
		{named("a", "b"), "a", 0}, {named("a", "b"), "b", 1}, {named("a", "b"), "c", -1}, {named("a", "b"), "", -1},
		{named("ab"), "a", -1}, {named("a"), "ab", -1}, {named("a"), "A", -1},
		{api.Schema{}, "", -1}, {api.Schema{}, "a", -1},
		{named("b", "a", "a"), "a", 1}, {named("", "A b"), "", 0}, {named("", "A b"), "A b", 1}, // of any schema
		{many, "x", 0}, {many, "y", 300}, {one("a", -1, -1), "a", 0},
	} {
		if got := cell.Family(x.s, x.name); got != x.want {
			t.Errorf("%d: Family(%q) = %d, want %d", i, x.name, got, x.want)
		}
	}
}
