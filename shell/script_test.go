package shell_test

import (
	"math/rand"
	"strings"
	"testing"

	"strata/api"
	"strata/shell"
)

// 20.2: what stands between newlines is a line; behind the last one only what is not empty.
func TestRun(t *testing.T) {
	for _, c := range []struct{ script, want string }{
		{"", ""}, {"\n", "\n"}, {"\n\n", "\n\n"}, {"files", "ok\n"}, {"files\n", "ok\n"}, {"files\n\n", "ok\n\n"}, {"\nfiles", "\nok\n"}, {" ", "\n"}, {"\n ", "\n\n"},
		{"x\r\nfiles\r\n", "error 200\nerror 200\n"}, {"#\n#", "\n\n"}, {"files\x00\nfiles", "error 200\nok\n"},
		{"table f 1 0\nopen 64 8 1000 8\n\nstat\n# the end", "ok\nok 0 1 0\n\nok 0 0 1 0 0 0 0 0 0\n\n"},
		{"table f 1 0\nopen 64 8 1000 8\nmutate 0 0 \"a\nb\" put f \"\" 0 \"\"\nstat", "ok\nok 0 1 0\nerror 200\nerror 200\nok 0 0 1 0 0 0 0 0 0\n"},
	} {
		if got, err := shell.Run(1<<20, c.script); got != c.want || err != api.OK {
			t.Errorf("%q: %q, %d", c.script, got, err)
		}
	}
}

// 20.2: a script's bounds come ahead of the disk's.
func TestRunsBounds(t *testing.T) {
	lines := func(n int, end string) string { return strings.Repeat("files\n", n-1) + "files" + end }
	full := "#" + strings.Repeat("x", api.MaxScript-1)
	for i, c := range []struct {
		capacity int
		script   string
		want     api.Errno
	}{
		{0, lines(api.MaxLines, ""), api.OK}, {0, lines(api.MaxLines, "\n"), api.OK}, {0, lines(api.MaxLines+1, ""), api.ErrScript}, {0, lines(api.MaxLines, "\n\n"), api.ErrScript}, {0, lines(api.MaxLines, "\n "), api.ErrScript},
		{0, strings.Repeat("\n", api.MaxLines), api.OK}, {0, strings.Repeat("\n", api.MaxLines+1), api.ErrScript},
		{0, full, api.OK}, {0, full[1:] + "\n", api.OK}, {0, full + "x", api.ErrScript}, {0, full + "\n", api.ErrScript}, {0, strings.Repeat("\n", api.MaxScript+1), api.ErrScript},
		{-1, "", api.ErrArg}, {-1, "files", api.ErrArg}, {api.MaxDisk + 1, "files", api.ErrArg}, {api.MaxDisk, "files", api.OK}, {-1, full + "x", api.ErrScript}, {-1, lines(api.MaxLines+1, ""), api.ErrScript},
	} {
		got, err := shell.Run(c.capacity, c.script)
		if err != c.want || err != api.OK && got != "" {
			t.Errorf("row %d: %.20q, %d, want %d", i, got, err, c.want)
		}
		if err == api.OK && strings.Count(got, "\n") != strings.Count(strings.TrimSuffix(c.script, "\n"), "\n")+min(1, len(c.script)) {
			t.Errorf("row %d: %d lines", i, strings.Count(got, "\n"))
		}
	}
}

// 20.2: a script is answered as its lines are, one by one, by a new shell.
func TestRunIsDo(t *testing.T) {
	manySeeds(t, 64, func(t *testing.T, seed int, _ map[string]int) {
		s := newStory(t, 1000+seed, 1<<20)
		var lines, answers []string
		for range 100 {
			l := s.draw()
			l.want()
			lines = append(lines, l.text)
			answers = append(answers, s.x.Do(l.text))
		}
		r := rand.New(rand.NewSource(int64(seed)))
		n := r.Intn(101)
		script := strings.Join(lines[:n], "\n") + pick(r, "", "\n")
		want := ""
		for _, a := range answers[:n] {
			want += a + "\n"
		}
		if n == 0 {
			script = ""
		}
		if got, err := shell.Run(1<<20, script); len(script) <= api.MaxScript && (got != want || err != api.OK) {
			t.Errorf("seed %d: %s, %d\nwant %s", seed, got, err, want)
		}
	})
}
