package wal_test

import (
	"slices"
	"strings"
	"testing"

	"rickyard/api"
	"rickyard/vdisk"
	"rickyard/wal"
)

// slowLog is the document's rules, word by word, on a disk of its own.
type slowLog struct {
	d    *vdisk.Disk
	name string
	many int
	off  bool
}

func (l *slowLog) write(bytes string) api.Errno {
	other := l.name + "+"
	if slices.Contains(l.d.List(), other) {
		if e := l.d.Delete(other); e != api.OK {
			return e
		}
	}
	if e := l.d.Create(other); e != api.OK {
		return e
	}
	if e := l.d.Append(other, bytes); e != api.OK {
		return e
	}
	if e := l.d.Sync(other); e != api.OK {
		return e
	}
	return l.d.Rename(other, l.name)
}

func slowOpen(d *vdisk.Disk, name string, all func(bytes string) ([]string, string)) (*slowLog, []string, api.Errno) {
	if len(name) == 0 || len(name) > 59 {
		return nil, nil, api.ErrArg
	}
	if !d.Up() {
		return nil, nil, api.ErrOff
	}
	bytes, _ := d.Read(name)
	texts, whole := all(bytes)
	l := &slowLog{d: d, name: name, many: len(texts)}
	var e api.Errno
	if !slices.Contains(d.List(), name) || whole != bytes {
		e = l.write(whole)
	} else {
		e = d.Sync(name)
	}
	if e != api.OK {
		return nil, nil, e
	}
	return l, texts, api.OK
}

func (l *slowLog) lay(reset bool, bytes string, texts []string) api.Errno {
	if l.off {
		return api.ErrOff
	}
	for _, text := range texts {
		if len(text) > maxText {
			return api.ErrWide
		}
	}
	var e api.Errno
	if reset {
		e = l.write(bytes)
	} else if e = l.d.Append(l.name, bytes); e == api.OK {
		e = l.d.Sync(l.name)
	}
	if e == api.OK && reset {
		l.many = 0
	}
	if e == api.OK {
		l.many += len(texts)
	} else if e != api.ErrFull {
		l.off = true
	}
	return e
}

// act is a call, of a log, or of the disk.
type act struct {
	what, name string
	texts      []string
	n, keep    int
}

// pair is a log, and a slow one, whose disks had the same calls.
type pair struct {
	t       *testing.T
	d, e    *vdisk.Disk
	logs    map[string]*wal.Log
	slow    map[string]*slowLog
	history []act
}

func newPair(t *testing.T, cap int) *pair {
	return &pair{t: t, d: vdisk.New(cap), e: vdisk.New(cap), logs: map[string]*wal.Log{}, slow: map[string]*slowLog{}}
}

// beginning is the texts that are whole at the beginning of bytes, and their bytes: the longest row
// of these texts that may be there, found by trying.
func (p *pair) beginning(known []string) func(string) ([]string, string) {
	return func(bytes string) ([]string, string) {
		var texts []string
		whole := ""
		for more := true; more; {
			more = false
			for _, text := range known {
				if put := bytesOf(p.t, text); strings.HasPrefix(bytes[len(whole):], put) {
					texts, whole, more = append(texts, text), whole+put, true
					break
				}
			}
		}
		return texts, whole
	}
}

func (p *pair) open(a act) bool {
	l, texts, e := wal.Open(p.d, a.name)
	slow, slowTexts, slowE := slowOpen(p.e, a.name, p.beginning(kinds()))
	if e == api.OK {
		p.logs[a.name] = l
	}
	if slowE == api.OK {
		p.slow[a.name] = slow
	}
	return e == slowE && slices.Equal(texts, slowTexts) && (l == nil) == (e != api.OK)
}

// do takes one act on both sides, and tells whether all is alike behind it.
func (p *pair) do(a act) bool {
	ok := true
	switch l := p.logs[a.name]; a.what {
	case "open":
		ok = p.open(a)
	case "append":
		ok = l == nil || l.Append(a.texts...) == p.slow[a.name].lay(false, bytesOf(p.t, short(a.texts)...), a.texts)
	case "reset":
		ok = l == nil || l.Reset(a.texts...) == p.slow[a.name].lay(true, bytesOf(p.t, short(a.texts)...), a.texts)
	default:
		for _, d := range []*vdisk.Disk{p.d, p.e} {
			onDisk(d, a)
		}
	}
	return ok && p.same()
}

// short is the texts that can be put.
func short(texts []string) []string {
	return slices.DeleteFunc(slices.Clone(texts), func(text string) bool { return len(text) > maxText })
}

func onDisk(d *vdisk.Disk, a act) {
	switch a.what {
	case "fuse":
		d.Fuse(a.n, a.keep)
	case "crash":
		d.Crash(a.keep)
	case "on":
		d.On()
	case "delete":
		d.Delete(a.name)
	case "tail":
		d.Append(a.name, strings.Join(a.texts, ""))
	}
}

func (p *pair) same() bool {
	if p.d.Up() != p.e.Up() || !slices.Equal(p.d.List(), p.e.List()) || len(p.logs) != len(p.slow) {
		return false
	}
	for _, name := range p.d.List() {
		one, e := p.d.Read(name)
		two, f := p.e.Read(name)
		if one != two || e != f || p.d.Synced(name) != p.e.Synced(name) {
			return false
		}
	}
	for name, l := range p.logs {
		if slow := p.slow[name]; l.Many() != slow.many || l.Off() != slow.off {
			return false
		}
	}
	return true
}

// try takes acts till all is not alike any more.
func (p *pair) try(acts []act) bool {
	for i, a := range acts {
		if !p.do(a) {
			p.t.Errorf("behind %v: List %q, want %q", acts[:i+1], p.d.List(), p.e.List())
			return false
		}
	}
	return true
}

// kinds is the texts that the acts lay.
func kinds() []string {
	return []string{"", "a", "bc", "\x00\xff", strings.Repeat("x", 20)}
}

// P11.1, P11.2: all rows of five acts, of few kinds.
func TestAllShortRowsOfActs(t *testing.T) {
	some := []act{
		{what: "open", name: "w"},
		{what: "append", name: "w", texts: []string{"a", "bc"}},
		{what: "append", name: "w"},
		{what: "reset", name: "w", texts: []string{"bc"}},
		{what: "reset", name: "w"},
		{what: "tail", name: "w", texts: []string{"\x01\x00"}},
		{what: "fuse", n: 1, keep: 1},
		{what: "fuse", n: 3, keep: 8},
		{what: "fuse", n: 4, keep: 1},
		{what: "crash", keep: 9},
		{what: "on"},
	}
	const length = 5
	all := 1
	for range length {
		all *= len(some)
	}
	for number := range all {
		acts := []act{some[0]}
		for range length {
			acts = append(acts, some[number%len(some)])
			number /= len(some)
		}
		if !newPair(t, 34).try(acts) {
			return
		}
	}
}

// dice is numbers in an order that has no short period.
type dice uint64

func (d *dice) below(n int) int {
	*d = *d*6364136223846793005 + 1442695040888963407
	return int(uint64(*d>>33) % uint64(n))
}

func (d *dice) texts() []string {
	var texts []string
	for range d.below(4) {
		texts = append(texts, kinds()[d.below(len(kinds()))])
	}
	return texts
}

func (d *dice) act() act {
	whats := []string{"open", "open", "append", "append", "append", "append", "reset", "reset", "fuse", "fuse", "crash", "on", "on", "tail", "delete"}
	names := []string{"w", "v", "w+"}
	a := act{what: whats[d.below(len(whats))], name: names[min(d.below(8), d.below(8))%3], n: d.below(9) - 1, keep: d.below(60) - 5}
	switch a.what {
	case "append", "reset":
		a.texts = d.texts()
		if d.below(40) == 0 {
			a.texts = append(a.texts, strings.Repeat("x", maxText+1))
		}
	case "tail":
		a.texts = []string{"\x01\x00abcd", "\x05\x00", "\x00"}[:1+d.below(3)]
	case "open":
		if d.below(20) == 0 {
			a.name = strings.Repeat("n", 58+d.below(4))
		}
	}
	return a
}

// P11.1, P11.2: also of logs whose files' names stand in each other's way.
func TestLongRowsOfActs(t *testing.T) {
	for start := range 1500 {
		d := dice(start)
		acts := make([]act, 150)
		for i := range acts {
			acts[i] = d.act()
		}
		if !newPair(t, d.below(200)).try(acts) {
			return
		}
	}
}
