package shell_test

import (
	"encoding/binary"
	"fmt"
	"hash/crc32"
	"math/rand"
	"strings"

	"strata/api"
	"strata/cell"
	"strata/disk"
	"strata/machine"
	"strata/order"
	"strata/squash"
	"strata/tree"
)

// model is what the chapter says of a shell, told a second time: it is handed values, not words.
type model struct {
	d      *disk.Disk
	s      *api.Schema
	x      *tree.Tree
	m      *machine.Machine
	j      *squash.Job
	backup *api.Image
	token  []byte // of the last page
}

func ok(values ...any) string {
	out := "ok"
	for _, v := range values {
		out += fmt.Sprint(" ", v)
	}
	return out
}

func failed(err api.Errno) string { return fmt.Sprintf("error %d", int(err)) }

// plain is ok alone, or an error.
func plain(err api.Errno) string {
	if err != api.OK {
		return failed(err)
	}
	return ok()
}

func (m *model) table(s api.Schema) string {
	if m.s != nil {
		return failed(api.ErrStarted)
	}
	if err := cell.CheckSchema(s); err != api.OK {
		return failed(err)
	}
	m.s = &s
	return ok()
}

func (m *model) open(o api.Options) string {
	if m.s == nil || m.x != nil {
		return failed(api.ErrStarted)
	}
	x, err := tree.Open(m.d, "k.", *m.s, o)
	if err != api.OK {
		return failed(err)
	}
	a, err := machine.Open(x)
	if err != api.OK {
		return failed(err)
	}
	m.x, m.m = x, a
	return ok(x.Applied(), x.Clock(), x.Low())
}

func (m *model) end() { m.x, m.m, m.j = nil, nil, nil }

func (m *model) abort() {
	if m.j != nil {
		m.j.Abort()
	}
	m.j = nil
}

func (m *model) page(p api.Page) string {
	out := ""
	for _, r := range p.Rows {
		out += " " + told(r.Row) + "{"
		for i, c := range r.Cells {
			if i > 0 {
				out += ", "
			}
			out += fmt.Sprintf("%s %s %d %s", m.s.Fams[c.Fam].Name, told(c.Qual), c.Ts, told(c.Value))
		}
		out += "}"
	}
	m.token = p.Token
	if p.Done {
		return "ok" + out + " done"
	}
	return "ok" + out + " more " + told(p.Token)
}

func (m *model) apply(c api.Command) string {
	b, err := order.Encode(*m.s, c)
	if err != api.OK {
		return failed(err)
	}
	if b, err = m.m.Apply(m.m.Stat().Applied+1, b); err != api.OK {
		return failed(err)
	}
	r, err := order.DecodeReply(b)
	switch {
	case err != api.OK:
		return failed(err)
	case r.Err != api.OK:
		return failed(r.Err)
	case c.Kind == api.MClose:
		return ok()
	case c.Kind == api.MRead:
		return m.page(r.Page)
	case c.Kind != api.MMutate:
		return ok(r.Value)
	case r.Held:
		return ok("yes", r.Value)
	}
	return ok("no", r.Value)
}

func (m *model) get(q api.Query) string {
	p, err := m.m.Query(q)
	if err != api.OK {
		return failed(err)
	}
	return m.page(p)
}

func (m *model) compact(major bool) string {
	if m.j != nil {
		return failed(api.ErrBusy)
	}
	picks, all, err := squash.Pick(api.Policy{Width: 2, Ratio: 4, Most: 8}, m.x.Runs()...)
	if major {
		picks, all, err = nil, true, api.OK
		for _, r := range m.x.Runs() {
			picks = append(picks, r.Num)
		}
	}
	if err != api.OK {
		return failed(err)
	}
	if len(picks) == 0 {
		return ok("none")
	}
	if m.j, err = squash.Start(m.x, picks, all); err != api.OK {
		return failed(err)
	}
	return ok(strings.Trim(fmt.Sprint(picks), "[]"))
}

func (m *model) step(n int) string {
	if m.j == nil {
		return failed(api.ErrJob)
	}
	all, err := m.j.Step(n)
	switch {
	case err != api.OK:
		m.j = nil
		return failed(err)
	case all:
		return ok("all")
	}
	return ok("more")
}

func (m *model) finish() string {
	if m.j == nil {
		return failed(api.ErrJob)
	}
	s, err := m.j.Finish()
	m.j = nil
	if err != api.OK {
		return failed(err)
	}
	return ok(s.In, s.Out, s.Dropped.Older, s.Dropped.Masked, s.Dropped.Expired, s.Dropped.Above, s.Dropped.Marks)
}

func (m *model) runs() string {
	var l []any
	for _, r := range m.x.Runs() {
		l = append(l, fmt.Sprintf("%d:%d:%d:%d:%d:%d", r.Num, r.Count, r.Index, r.Low, r.Clock, r.Bytes))
	}
	return ok(l...)
}

func entryText(s api.Schema, e api.Entry) string {
	return fmt.Sprintf("%d %s %s %s %d %d %s", e.Kind, told(e.Row), s.Fams[e.Fam].Name, told(e.Qual), e.Ts, e.Seq, told(e.Value))
}

// dumpText is how a dump of entries stands in an answer.
func dumpText(s api.Schema, entries []api.Entry) string {
	var l []string
	for _, e := range entries {
		l = append(l, entryText(s, e))
	}
	return strings.TrimSpace("ok " + strings.Join(l, ", "))
}

func (m *model) dump(num int) string {
	v, err := m.x.Pin()
	if err != api.OK {
		return failed(err)
	}
	defer v.Release()
	s, err := v.Source(num)
	if err != api.OK {
		return failed(err)
	}
	var l []api.Entry
	for {
		e, more, err := s.Next()
		if err != api.OK {
			return failed(err)
		}
		if !more {
			return dumpText(*m.s, l)
		}
		l = append(l, e)
	}
}

func (m *model) stat() string {
	a := m.m.Stat()
	n, b := m.x.Mem()
	return ok(a.Applied, m.x.Flushed(), a.Clock, a.Low, len(a.Sessions), n, b, len(m.x.Runs()), m.x.Pins())
}

func (m *model) digest() string {
	n, err := m.m.Digest()
	if err != api.OK {
		return failed(err)
	}
	return ok(n)
}

func frame(body []byte) []byte {
	castagnoli := crc32.MakeTable(crc32.Castagnoli)
	out := binary.BigEndian.AppendUint32(nil, uint32(len(body)))
	out = binary.LittleEndian.AppendUint32(out, crc32.Checksum(out, castagnoli))
	return binary.LittleEndian.AppendUint32(append(out, body...), crc32.Checksum(body, castagnoli))
}

// backupBytes: 20.5, told a second time.
func backupBytes(i api.Image) []byte {
	var b []byte
	for _, n := range []int{i.Index, i.Clock, i.Low, len(i.State)} {
		b = binary.AppendUvarint(b, uint64(n))
	}
	b = binary.AppendUvarint(append(b, i.State...), uint64(len(i.Runs)))
	for _, r := range i.Runs {
		b = binary.AppendUvarint(b, uint64(len(r)))
	}
	b = frame(b)
	for _, r := range i.Runs {
		b = append(b, r...)
	}
	return b
}

func (m *model) keep() string {
	i, err := m.x.Image()
	if err != api.OK {
		return failed(err)
	}
	m.backup = &i
	return ok(len(backupBytes(i)))
}

func (m *model) restore() string {
	switch {
	case m.s == nil || m.x != nil:
		return failed(api.ErrStarted)
	case m.backup == nil:
		return failed(api.ErrBackup)
	}
	x, err := tree.Open(m.d, "k.", *m.s, api.Options{Block: 4096, Bits: 10, Mem: 65536, Stall: 8})
	if err != api.OK {
		return failed(err)
	}
	return plain(x.Install(*m.backup))
}

func (m *model) files() string {
	var l []any
	for _, f := range m.d.Files() {
		l = append(l, fmt.Sprintf("%s:%d", f.Name, len(f.Data)))
	}
	return ok(l...)
}

// famText is a family's name; that of a number that the schema has not is none of its names.
func (m *model) famText(n int) string {
	if m.s != nil && n < len(m.s.Fams) {
		return m.s.Fams[n].Name
	}
	return fmt.Sprint("no_family_", n)
}

func (m *model) hasFams(l ...int) bool {
	for _, n := range l {
		if n >= len(m.s.Fams) {
			return false
		}
	}
	return true
}

// questionText spells a question in some way.
func (m *model) questionText(r *rand.Rand, q api.Query) string {
	l := []string{spelt(r, q.From), spelt(r, q.To), fmt.Sprint(q.N), fmt.Sprint(q.Rows), fmt.Sprint(q.Time)}
	if q.Reverse {
		l = append(l, "back")
	}
	for i, n := range q.Fams {
		l = append(l, []string{"fam", ","}[min(i, 1)], m.famText(n))
	}
	if len(q.Prefix) > 0 || r.Intn(9) == 0 {
		l = append(l, "prefix", spelt(r, q.Prefix))
	}
	if q.Where != "" || r.Intn(9) == 0 {
		l = append(l, "where", spelt(r, []byte(q.Where)))
	}
	if len(q.Token) > 0 || r.Intn(9) == 0 {
		l = append(l, "token", spelt(r, q.Token))
	}
	return strings.Join(l, " ")
}

// mutationText spells a mutation in some way.
func (m *model) mutationText(r *rand.Rand, c api.Command) string {
	l := []string{"mutate", fmt.Sprint(c.Client), fmt.Sprint(c.Serial), spelt(r, c.Row)}
	for _, x := range c.Conds {
		l = append(l, "if", []string{"", "there", "absent", "same", "other", "below", "above"}[x.Kind], m.famText(x.Fam), spelt(r, x.Qual))
		if x.Kind >= api.CSame {
			l = append(l, spelt(r, x.Value))
		}
	}
	for _, x := range c.Ops {
		f := m.famText(x.Fam)
		switch x.Kind {
		case api.OPut:
			l = append(l, "put", f, spelt(r, x.Qual), fmt.Sprint(x.Ts), spelt(r, x.Value))
		case api.OCell:
			l = append(l, "cell", f, spelt(r, x.Qual), fmt.Sprint(x.Ts))
		case api.OCol:
			l = append(l, "col", f, spelt(r, x.Qual), fmt.Sprint(x.Ts))
		case api.OFam:
			l = append(l, "fam", f, fmt.Sprint(x.Ts))
		case api.OAdd:
			l = append(l, "add", f, spelt(r, x.Qual), fmt.Sprint(x.Delta))
		}
	}
	return strings.Join(l, " ")
}
