package shell

import (
	"strconv"
	"strings"

	"strata/api"
)

func numbers(l ...int) []string {
	var out []string
	for _, n := range l {
		out = append(out, strconv.Itoa(n))
	}
	return out
}

func (x *Shell) runs() ([]string, api.Errno) {
	var out []string
	for _, m := range x.tree.Runs() {
		out = append(out, strings.Join(numbers(m.Num, m.Count, m.Index, m.Low, m.Clock, m.Bytes), ":"))
	}
	return out, api.OK
}

func (x *Shell) stat() ([]string, api.Errno) {
	s := x.machine.Stat()
	entries, bytes := x.tree.Mem()
	return numbers(s.Applied, x.tree.Flushed(), s.Clock, s.Low, len(s.Sessions), entries, bytes, len(x.tree.Runs()), x.tree.Pins()), api.OK
}

func (x *Shell) digest() ([]string, api.Errno) {
	sum, err := x.machine.Digest()
	if err != api.OK {
		return nil, err
	}
	return numbers(int(sum)), api.OK
}

// files tells the sizes by the files themselves, since a disk that is down answers no Size.
func (x *Shell) files() ([]string, api.Errno) {
	var out []string
	for _, f := range x.disk.Files() {
		out = append(out, f.Name+":"+strconv.Itoa(len(f.Data)))
	}
	return out, api.OK
}

func (x *Shell) dump(num int) ([]string, api.Errno) {
	v, err := x.tree.Pin()
	if err != api.OK {
		return nil, err
	}
	defer v.Release()
	source, err := v.Source(num)
	if err != api.OK {
		return nil, err
	}
	var out []string
	for {
		e, more, err := source.Next()
		if err != api.OK {
			return nil, err
		}
		if !more {
			return withCommas(out), api.OK
		}
		out = append(out, x.entry(e))
	}
}

// withCommas puts one behind each but the last.
func withCommas(l []string) []string {
	for i := range len(l) - 1 {
		l[i] += comma
	}
	return l
}

func (x *Shell) entry(e api.Entry) string {
	return strings.Join([]string{
		strconv.Itoa(e.Kind), quote(e.Row), x.family(e.Fam), quote(e.Qual), strconv.Itoa(e.Ts), strconv.Itoa(e.Seq), quote(e.Value),
	}, " ")
}

// family is the name of a family. A page may speak of one that is none: the reply that a session keeps comes from the disk as it stands there.
func (x *Shell) family(n int) string {
	if n >= len(x.schema.Fams) {
		return ""
	}
	return x.schema.Fams[n].Name
}

func (x *Shell) page(p api.Page) []string {
	var out []string
	for _, r := range p.Rows {
		out = append(out, quote(r.Row)+"{"+strings.Join(x.cells(r.Cells), ", ")+"}")
	}
	if p.Done {
		return append(out, "done")
	}
	return append(out, "more", quote(p.Token))
}

func (x *Shell) cells(l []api.Cell) []string {
	var out []string
	for _, c := range l {
		out = append(out, strings.Join([]string{x.family(c.Fam), quote(c.Qual), strconv.Itoa(c.Ts), quote(c.Value)}, " "))
	}
	return out
}
