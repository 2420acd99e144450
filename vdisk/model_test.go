package vdisk_test

import (
	"bytes"
	"slices"
	"strings"
	"testing"

	"rickyard/api"
	"rickyard/vdisk"
)

// slowDisk is the document's rules, word by word: files stand in a list, and each byte knows
// whether it is synced.
type slowDisk struct {
	cap     int
	files   []slowFile
	off     bool
	n, keep int
}

type slowFile struct {
	name   string
	bytes  []byte
	synced []bool
}

func (d *slowDisk) at(name string) int {
	return slices.IndexFunc(d.files, func(f slowFile) bool { return f.name == name })
}

func (d *slowDisk) size() int {
	n := 0
	for _, f := range d.files {
		n += len(f.bytes)
	}
	return n
}

func (d *slowDisk) crash(keep int) {
	d.off = true
	for i, f := range d.files {
		first := slices.Index(f.synced, false)
		if first < 0 {
			continue
		}
		stay := first
		if keep >= 0 {
			stay += keep % (len(f.bytes) - first + 1)
		}
		d.files[i].bytes = f.bytes[:stay]
		d.files[i].synced = slices.Repeat([]bool{true}, stay)
	}
}

// act is a call: what it does, and of what.
type act struct {
	what     string
	name, to string // to is what is appended, too
	n, keep  int
}

func (d *slowDisk) fault(a act) api.Errno {
	wrong := func(name string) bool { return len(name) < 1 || len(name) > 60 }
	there := d.at(a.name) >= 0
	switch {
	case d.off:
		return api.ErrOff
	case wrong(a.name) || a.what == "rename" && wrong(a.to):
		return api.ErrArg
	case a.what == "create" && there:
		return api.ErrTwice
	case a.what == "create" && len(d.files) == 200:
		return api.ErrFull
	case a.what != "create" && !there:
		return api.ErrNone
	case a.what == "append" && d.size()+len(a.to) > d.cap:
		return api.ErrFull
	}
	return api.OK
}

func (d *slowDisk) change(a act) {
	i := d.at(a.name)
	switch a.what {
	case "create":
		d.files = append(d.files, slowFile{name: a.name})
	case "append":
		d.files[i].bytes = slices.Concat(d.files[i].bytes, []byte(a.to))
		d.files[i].synced = slices.Concat(d.files[i].synced, make([]bool, len(a.to)))
	case "sync":
		d.files[i].synced = slices.Repeat([]bool{true}, len(d.files[i].bytes))
	case "rename":
		if a.to != a.name {
			d.files = slices.DeleteFunc(d.files, func(f slowFile) bool { return f.name == a.to })
			d.files[d.at(a.name)].name = a.to
		}
	case "delete":
		d.files = slices.Delete(d.files, i, i+1)
	}
}

func (d *slowDisk) do(a act) api.Errno {
	switch a.what {
	case "fuse":
		d.n, d.keep = max(a.n, 0), a.keep
		return api.OK
	case "crash":
		d.crash(a.keep)
		return api.OK
	case "on":
		d.off, d.n = false, 0
		return api.OK
	}
	if e := d.fault(a); e != api.OK {
		return e
	}
	if d.n != 1 {
		d.change(a)
		d.n = max(d.n-1, 0)
		return api.OK
	}
	if a.what == "append" || d.keep&1 == 1 {
		d.change(a)
	}
	d.crash(d.keep)
	return api.ErrOff
}

func do(d *vdisk.Disk, a act) api.Errno {
	switch a.what {
	case "fuse":
		d.Fuse(a.n, a.keep)
	case "crash":
		d.Crash(a.keep)
	case "on":
		d.On()
	case "create":
		return d.Create(a.name)
	case "append":
		return d.Append(a.name, a.to)
	case "sync":
		return d.Sync(a.name)
	case "rename":
		return d.Rename(a.name, a.to)
	case "delete":
		return d.Delete(a.name)
	}
	return api.OK
}

// same tells whether all that can be asked of the disks is alike.
func same(t *testing.T, acts []act, d *vdisk.Disk, slow *slowDisk) bool {
	t.Helper()
	var names []string
	for _, f := range slow.files {
		names = append(names, f.name)
		synced := bytes.Count(boolBytes(f.synced), []byte{1})
		if got := d.Synced(f.name); got != synced {
			t.Errorf("%v: Synced of %q: %d, want %d", acts, f.name, got, synced)
			return false
		}
		text, e := string(f.bytes), api.OK
		if slow.off {
			text, e = "", api.ErrOff
		}
		if s, got := d.Read(f.name); s != text || got != e {
			t.Errorf("%v: Read of %q: %q, %v, want %q, %v", acts, f.name, s, got, text, e)
			return false
		}
	}
	slices.Sort(names)
	if !slices.Equal(d.List(), names) || d.Size() != slow.size() || d.Up() == slow.off {
		t.Errorf("%v: %q, %d, %v, want %q, %d, %v", acts, d.List(), d.Size(), d.Up(), names, slow.size(), !slow.off)
		return false
	}
	return true
}

func boolBytes(l []bool) []byte {
	out := make([]byte, len(l))
	for i, b := range l {
		if b {
			out[i] = 1
		}
	}
	return out
}

func tryActs(t *testing.T, cap int, acts []act) bool {
	t.Helper()
	d, slow := vdisk.New(cap), &slowDisk{cap: max(cap, 0)}
	for i, a := range acts {
		if got, want := do(d, a), slow.do(a); got != want {
			t.Errorf("%v: %v, want %v", acts[:i+1], got, want)
			return false
		}
		if !same(t, acts[:i+1], d, slow) {
			return false
		}
	}
	return true
}

// P6.1 to P6.3: all rows of five acts, of few kinds, behind three that make two files.
func TestAllShortRowsOfActs(t *testing.T) {
	kinds := []act{
		{what: "create", name: "f"},
		{what: "append", name: "f", to: "xyz"},
		{what: "append", name: "g", to: "vw"},
		{what: "sync", name: "f"},
		{what: "rename", name: "f", to: "g"},
		{what: "rename", name: "g", to: "f"},
		{what: "delete", name: "f"},
		{what: "fuse", n: 2, keep: 1},
		{what: "fuse", n: 1, keep: 2},
		{what: "crash", keep: 2},
		{what: "on"},
	}
	first := []act{{what: "create", name: "f"}, {what: "append", name: "f", to: "ab"}, {what: "create", name: "g"}}
	const length = 5
	all := 1
	for range length {
		all *= len(kinds)
	}
	for number := range all {
		acts := slices.Clone(first)
		for range length {
			acts = append(acts, kinds[number%len(kinds)])
			number /= len(kinds)
		}
		if !tryActs(t, 9, acts) {
			return
		}
	}
}

// dice is numbers in an order that has no short period.
type dice uint64

func (d *dice) below(n int) int {
	*d = *d*6364136223846793005 + 1442695040888963407
	return int(uint64(*d>>33) % uint64(n))
}

func (d *dice) name() string {
	names := []string{"a", "b", "c", "a+", "", strings.Repeat("n", 60), strings.Repeat("n", 61)}
	// The first four are asked for more often.
	return names[min(d.below(len(names)), d.below(2*len(names)))]
}

func (d *dice) act() act {
	whats := []string{"create", "create", "append", "append", "append", "append", "sync", "sync", "rename", "delete", "fuse", "crash", "on", "on"}
	a := act{what: whats[d.below(len(whats))], name: d.name(), n: d.below(8) - 1, keep: d.below(12) - 3}
	switch a.what {
	case "append":
		a.to = strings.Repeat(string(rune('a'+d.below(26))), d.below(9))
	case "rename":
		a.to = d.name()
	}
	return a
}

// P6.1 to P6.3
func TestLongRowsOfActs(t *testing.T) {
	for start := range 2000 {
		d := dice(start)
		acts := make([]act, 150)
		for i := range acts {
			acts[i] = d.act()
		}
		if !tryActs(t, d.below(60)-2, acts) {
			return
		}
	}
}

// told is what a disk says of its files: their bytes, and how many of them are synced.
func told(d *vdisk.Disk) (map[string]string, map[string]int) {
	texts, synced := map[string]string{}, map[string]int{}
	for _, name := range d.List() {
		texts[name], _ = d.Read(name)
		synced[name] = d.Synced(name)
	}
	return texts, synced
}

// P6.4
func TestWhatIsSyncedIsKept(t *testing.T) {
	for start := range 500 {
		dice := dice(start)
		d := vdisk.New(60)
		for range 150 {
			texts, synced := told(d)
			a := dice.act()
			do(d, a)
			crashed := !d.Up()
			if crashed {
				d.On()
			}
			for name, text := range texts {
				if (a.what == "delete" || a.what == "rename") && (name == a.name || name == a.to) {
					continue
				}
				if a.what == "append" && name == a.name {
					text += a.to
				}
				left, e := d.Read(name)
				if e != api.OK || len(left) < synced[name] || !strings.HasPrefix(text, left) {
					t.Fatalf("%v: of %q with %d synced: %q, %v", a, text, synced[name], left, e)
				}
				if crashed && d.Synced(name) != len(left) || d.Synced(name) < synced[name] {
					t.Fatalf("%v: %d of %q are synced", a, d.Synced(name), left)
				}
			}
		}
	}
}

// P6.4: wherever a fuse crashes a row of calls, each file is a beginning of what it was to be, and
// has at least what was synced.
func TestACutRowOfCallsLeavesBeginnings(t *testing.T) {
	acts := []act{
		{what: "create", name: "f"}, {what: "append", name: "f", to: "one"}, {what: "sync", name: "f"},
		{what: "append", name: "f", to: "two"}, {what: "append", name: "f", to: "three"}, {what: "sync", name: "f"},
		{what: "append", name: "f", to: "four"},
	}
	const whole = "onetwothreefour"
	for n := 1; n <= len(acts); n++ {
		for keep := -2; keep < 20; keep++ {
			d := vdisk.New(100)
			d.Fuse(n, keep)
			ended, sure := 0, 0
			for _, a := range acts {
				if do(d, a) != api.OK {
					break
				}
				ended++
				sure = d.Synced("f")
			}
			d.On()
			left, _ := d.Read("f")
			if ended != n-1 || !strings.HasPrefix(whole, left) || len(left) < sure || d.Synced("f") != len(left) {
				t.Errorf("fuse %d, %d: %d calls, %q, %d were synced", n, keep, ended, left, sure)
			}
		}
	}
}
