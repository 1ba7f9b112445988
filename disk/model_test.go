package disk_test

import (
	"bytes"
	"fmt"
	"math"
	"math/rand"
	"slices"
	"strings"
	"testing"

	"strata/api"
	"strata/disk"
)

// model is a disk as the chapter words it: a list of files, by their names.
type model struct {
	capacity int
	files    []api.File
	left     int // acts up to the last one; 0: not armed
	down     bool
	counts   api.DiskCounts
}

func (m *model) place(name string) int {
	return slices.IndexFunc(m.files, func(f api.File) bool { return f.Name == name })
}

func (m *model) used() int {
	n := 0
	for _, f := range m.files {
		n += len(f.Data)
	}
	return n
}

func (m *model) put(f api.File) {
	m.files = append(m.files, f)
	slices.SortFunc(m.files, func(a, b api.File) int { return strings.Compare(a.Name, b.Name) })
}

func (m *model) remove(name string) {
	i := m.place(name)
	m.files = slices.Delete(m.files, i, i+1)
}

const letters = "abcdefghijklmnopqrstuvwxyzABCDEFGHIJKLMNOPQRSTUVWXYZ0123456789.-_/"

func goodName(s string) bool {
	return len(s) >= 1 && len(s) <= 64 && strings.Trim(s, letters) == ""
}

// call is one of a disk's calls with what is handed in.
type call struct {
	what     string
	name, to string
	b        []byte
	at, n    int
	cuts     []int
}

func (c call) String() string {
	return fmt.Sprintf("%s(%q, %q, %q, %d, %d, %v)", c.what, c.name, c.to, c.b, c.at, c.n, c.cuts)
}

// answer holds whatever a call answered.
type answer struct {
	err api.Errno
	n   int
	b   string
}

// refusal: the first reason not to do what is asked.
func (m *model) refusal(c call) api.Errno {
	there := m.place(c.name) >= 0
	switch {
	case m.down && c.what != "Flip":
		return api.ErrDown
	case !goodName(c.name), c.what == "Rename" && !goodName(c.to):
		return api.ErrName
	case c.what == "Create" && there:
		return api.ErrExists
	case c.what == "Create" && len(m.files) == 256:
		return api.ErrFiles
	case c.what != "Create" && !there:
		return api.ErrNoFile
	case c.what == "Append" && m.used()+len(c.b) > m.capacity:
		return api.ErrFull
	}
	if !there {
		return api.OK
	}
	size := len(m.files[m.place(c.name)].Data)
	switch {
	case c.what == "Read" && (c.at < 0 || c.n < 0 || float64(c.at)+float64(c.n) > float64(size)):
		return api.ErrRange
	case c.what == "Flip" && (c.n < 0 || c.n >= 8*size):
		return api.ErrRange
	}
	return api.OK
}

// act does what is not refused and counts it.
func (m *model) act(c call) {
	m.counts.Acts++
	switch c.what {
	case "Create":
		m.put(api.File{Name: c.name})
	case "Append":
		m.counts.Appends++
		f := &m.files[m.place(c.name)]
		f.Data = slices.Concat(f.Data, c.b)
	case "Sync":
		m.counts.Syncs++
		f := &m.files[m.place(c.name)]
		f.Synced = len(f.Data)
	case "Rename":
		m.counts.Renames++
		f := m.files[m.place(c.name)]
		if c.to != c.name && m.place(c.to) >= 0 {
			m.remove(c.to)
		}
		m.remove(c.name)
		f.Name = c.to
		m.put(f)
	case "Delete":
		m.counts.Deletes++
		m.remove(c.name)
	}
}

func (m *model) crash(cuts []int) int {
	tails := 0
	for i := range m.files {
		f := &m.files[i]
		if len(f.Data) == f.Synced {
			continue
		}
		for len(f.Data) > f.Synced {
			if tails < len(cuts) && cuts[tails] >= len(f.Data)-f.Synced {
				break
			}
			f.Data = f.Data[:len(f.Data)-1]
		}
		f.Synced = len(f.Data)
		tails++
	}
	m.down, m.left = false, 0
	return tails
}

// do is what the call must answer.
func (m *model) do(c call) answer {
	switch c.what {
	case "Crash":
		return answer{n: m.crash(c.cuts)}
	case "Arm":
		if !m.down {
			m.left = max(c.n, 0)
		}
		return answer{}
	}
	if err := m.refusal(c); err != api.OK {
		return answer{err: err}
	}
	switch c.what {
	case "Read":
		m.counts.Reads++
		return answer{b: string(m.files[m.place(c.name)].Data[c.at : c.at+c.n])}
	case "Size":
		return answer{n: len(m.files[m.place(c.name)].Data)}
	case "Flip":
		f := &m.files[m.place(c.name)]
		f.Data = bytes.Clone(f.Data)
		f.Data[c.n/8] ^= []byte{1, 2, 4, 8, 16, 32, 64, 128}[c.n%8]
		return answer{}
	}
	m.left--
	if m.left != 0 {
		m.left = max(m.left, 0)
		m.act(c)
		return answer{}
	}
	m.down = true
	if c.what == "Append" {
		m.act(c)
	}
	return answer{err: api.ErrDown}
}

// ask makes the call on a disk.
func ask(d *disk.Disk, c call) answer {
	switch c.what {
	case "Create":
		return answer{err: d.Create(c.name)}
	case "Append":
		return answer{err: d.Append(c.name, c.b)}
	case "Sync":
		return answer{err: d.Sync(c.name)}
	case "Rename":
		return answer{err: d.Rename(c.name, c.to)}
	case "Delete":
		return answer{err: d.Delete(c.name)}
	case "Read":
		b, err := d.Read(c.name, c.at, c.n)
		return answer{err: err, b: string(b)}
	case "Size":
		n, err := d.Size(c.name)
		return answer{err: err, n: n}
	case "Flip":
		return answer{err: d.Flip(c.name, c.n)}
	case "Arm":
		d.Arm(c.n)
		return answer{}
	case "Crash":
		return answer{n: d.Crash(c.cuts...)}
	}
	panic("no call: " + c.what)
}

// text tells files as "name=bytes/synced".
func text(files []api.File) string {
	var out []string
	for _, f := range files {
		out = append(out, fmt.Sprintf("%s=%q/%d", f.Name, f.Data, f.Synced))
	}
	return strings.Join(out, " ")
}

// mustBe: all that a disk tells of itself is what the model has.
func (m *model) mustBe(t *testing.T, d *disk.Disk, prefix string, past fmt.Stringer) {
	t.Helper()
	if got, want := text(d.Files()), text(m.files); got != want {
		t.Fatalf("behind %v the files are %s, want %s", past, got, want)
	}
	if d.Free() != m.capacity-m.used() || d.Capacity() != m.capacity || d.Down() != m.down {
		t.Fatalf("behind %v: free %d, capacity %d, down %v", past, d.Free(), d.Capacity(), d.Down())
	}
	if d.Counts() != m.counts {
		t.Fatalf("behind %v the counts are %+v, want %+v", past, d.Counts(), m.counts)
	}
	var names []string
	for _, f := range m.files {
		if strings.Index(f.Name, prefix) == 0 {
			names = append(names, f.Name)
		}
	}
	if !slices.Equal(d.List(prefix), names) {
		t.Fatalf("behind %v the names with %q are %q, want %q", past, prefix, d.List(prefix), names)
	}
}

// pick is one of a list.
func pick[T any](r *rand.Rand, l ...T) T { return l[r.Intn(len(l))] }

func drawName(r *rand.Rand) string {
	if r.Intn(25) == 0 {
		return pick(r, "", "a b", "a\x00", "é", strings.Repeat("n", 65))
	}
	return pick(r, "a", "a", "b", "b", "ab", "a.b", "B", "0-_/", strings.Repeat("n", 64))
}

func drawBytes(r *rand.Rand) []byte {
	b := make([]byte, r.Intn(8))
	for i := range b {
		b[i] = byte('a' + r.Intn(26))
	}
	return b
}

func drawNumber(r *rand.Rand) int {
	if r.Intn(20) == 0 {
		return pick(r, math.MinInt, -1, math.MaxInt, math.MaxInt-1)
	}
	return r.Intn(12)
}

// drawCall: most of them acts.
func drawCall(r *rand.Rand) call {
	what := pick(r, "Create", "Create", "Append", "Append", "Append", "Append", "Sync", "Rename", "Delete", "Read", "Read", "Size", "Flip")
	if r.Intn(8) == 0 {
		what = pick(r, "Arm", "Crash")
	}
	c := call{what: what, name: drawName(r), to: drawName(r), b: drawBytes(r), at: drawNumber(r), n: drawNumber(r)}
	for range r.Intn(4) {
		c.cuts = append(c.cuts, drawNumber(r)-1)
	}
	if what == "Arm" && r.Intn(4) > 0 {
		c.n = 1 + r.Intn(6)
	}
	if what == "Flip" && c.n < 12 {
		c.n = r.Intn(60)
	}
	return c
}

// 4.1, 4.3 to 4.10, 4.13
func TestADiskIsWhatTheModelIs(t *testing.T) {
	r := rand.New(rand.NewSource(4))
	for range 600 {
		m := &model{capacity: r.Intn(60)}
		d := newDisk(t, m.capacity)
		for range 80 {
			c := drawCall(r)
			if got, want := ask(d, c), m.do(c); got != want {
				t.Fatalf("%v of %s: %+v, want %+v", c, text(m.files), got, want)
			}
			m.mustBe(t, d, pick(r, "", "a", "a.", "b", "-", "\x00", strings.Repeat("n", 65)), c)
		}
	}
}
