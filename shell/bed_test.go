package shell_test

import (
	"fmt"
	"math/rand"
	"strings"
	"testing"

	"strata/api"
	"strata/shell"
)

func mustErr(t *testing.T, what string, got, want api.Errno) {
	t.Helper()
	if got != want {
		t.Fatalf("%s: error %d, want %d", what, got, want)
	}
}

func begin(t *testing.T, capacity int) *shell.Shell {
	t.Helper()
	x, err := shell.New(capacity)
	if x == nil || err != api.OK {
		t.Fatalf("New(%d): %v, %d", capacity, x, err)
	}
	return x
}

// turn is a line and its answer.
type turn struct {
	line, want string
}

func play(t *testing.T, x *shell.Shell, l ...turn) {
	t.Helper()
	for _, p := range l {
		if got := x.Do(p.line); got != p.want {
			t.Errorf("%q answers %q, want %q", p.line, got, p.want)
		}
	}
}

// do plays a line that must be taken: what is told behind ok.
func do(t *testing.T, x *shell.Shell, format string, values ...any) string {
	t.Helper()
	line := fmt.Sprintf(format, values...)
	got := x.Do(line)
	if got != "ok" && !strings.HasPrefix(got, "ok ") {
		t.Fatalf("%q answers %q", line, got)
	}
	return strings.TrimPrefix(got[2:], " ")
}

const openLine = "open 64 10 100000 8"

// opened is a shell with an open table of the families f, of two versions, and g, of one that lives for 30 ticks.
func opened(t *testing.T) *shell.Shell {
	t.Helper()
	x := begin(t, 1<<20)
	play(t, x, turn{"table f 2 0 , g 1 30", "ok"}, turn{openLine, "ok 0 1 0"})
	return x
}

// put fills a row of an open table.
func put(t *testing.T, x *shell.Shell, row, value string) {
	t.Helper()
	play(t, x, turn{fmt.Sprintf("mutate 0 0 %q put f \"q\" 0 %q", row, value), "ok yes 0"})
}

// threeRuns is an open table with the runs 3, 2 and 1, of one put each.
func threeRuns(t *testing.T) *shell.Shell {
	t.Helper()
	x := opened(t)
	for _, row := range []string{"a", "b", "c"} {
		put(t, x, row, "v")
		do(t, x, "flush")
	}
	return x
}

// told is how bytes stand in an answer.
func told(b []byte) string {
	out := ""
	for _, c := range b {
		switch {
		case c == '"', c == '\\':
			out += `\` + string(rune(c))
		case c < 0x20 || c >= 0x7f:
			out += fmt.Sprintf(`\x%02x`, c)
		default:
			out += string(rune(c))
		}
	}
	return `"` + out + `"`
}

// spelt is some literal of these bytes: each byte as it is, if it may be, or escaped.
func spelt(r *rand.Rand, b []byte) string {
	var out []byte
	for _, c := range b {
		plain := c >= 0x20 && c != '"' && c != '\\'
		switch {
		case plain && r.Intn(4) > 0:
			out = append(out, c)
		case !plain && c >= 0x20 && r.Intn(2) > 0:
			out = append(out, '\\', c)
		default:
			out = fmt.Appendf(out, `\x%02x`, c)
		}
	}
	return `"` + string(out) + `"`
}

// filesText: all files of a disk.
func filesText(l []api.File) string {
	out := ""
	for _, f := range l {
		out += fmt.Sprintf("%s %d %x\n", f.Name, f.Synced, f.Data)
	}
	return out
}

// fileOf is one file of a shell's disk.
func fileOf(t *testing.T, x *shell.Shell, name string) api.File {
	t.Helper()
	for _, f := range x.Files() {
		if f.Name == name {
			return f
		}
	}
	t.Fatalf("there is no file %s", name)
	return api.File{}
}

// manySeeds does something for each seed, many side by side.
func manySeeds(t *testing.T, seeds int, do func(t *testing.T, seed int, count map[string]int)) map[string]int {
	t.Helper()
	const parts = 16
	counts := make([]map[string]int, parts)
	t.Run("seeds", func(t *testing.T) {
		for i := range parts {
			counts[i] = map[string]int{}
			t.Run(fmt.Sprint(i), func(t *testing.T) {
				t.Parallel()
				for seed := i; seed < seeds; seed += parts {
					do(t, seed, counts[i])
				}
			})
		}
	})
	total := map[string]int{}
	for _, c := range counts {
		for k, n := range c {
			total[k] += n
		}
	}
	return total
}

// atLeast fails where something came less often than a test needs to mean anything.
func atLeast(t *testing.T, total, least map[string]int) {
	t.Helper()
	for k, n := range least {
		if total[k] < n {
			t.Errorf("%s came %d times", k, total[k])
		}
	}
}
