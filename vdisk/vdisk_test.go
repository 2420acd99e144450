package vdisk_test

import (
	"math"
	"slices"
	"strconv"
	"strings"
	"testing"

	"rickyard/api"
	"rickyard/vdisk"
)

func want(t *testing.T, what string, got, want api.Errno) {
	t.Helper()
	if got != want {
		t.Errorf("%s: %v, want %v", what, got, want)
	}
}

func wantRead(t *testing.T, d *vdisk.Disk, name, bytes string, e api.Errno) {
	t.Helper()
	if s, got := d.Read(name); s != bytes || got != e {
		t.Errorf("Read of %q: %q, %v, want %q, %v", name, s, got, bytes, e)
	}
}

func wantList(t *testing.T, d *vdisk.Disk, names ...string) {
	t.Helper()
	if got := d.List(); !slices.Equal(got, names) {
		t.Errorf("List: %q, want %q", got, names)
	}
}

// diskOf has for each name a file: what is ahead of a bar is synced, what is behind it is not.
func diskOf(t *testing.T, files map[string]string) *vdisk.Disk {
	t.Helper()
	d := vdisk.New(1000)
	for name, text := range files {
		synced, rest, _ := strings.Cut(text, "|")
		for _, e := range []api.Errno{d.Create(name), d.Append(name, synced), d.Sync(name), d.Append(name, rest)} {
			want(t, "a file", e, api.OK)
		}
	}
	return d
}

// calls is each of the calls that answer an error, of a file f of the disk.
func calls() map[string]func(d *vdisk.Disk, name string) api.Errno {
	return map[string]func(d *vdisk.Disk, name string) api.Errno{
		"Create": (*vdisk.Disk).Create,
		"Append": func(d *vdisk.Disk, name string) api.Errno { return d.Append(name, "x") },
		"Sync":   (*vdisk.Disk).Sync,
		"Delete": (*vdisk.Disk).Delete,
		"Rename from": func(d *vdisk.Disk, name string) api.Errno {
			return d.Rename(name, "new")
		},
		"Rename to": func(d *vdisk.Disk, name string) api.Errno {
			return d.Rename("f", name)
		},
		"Read": func(d *vdisk.Disk, name string) api.Errno {
			s, e := d.Read(name)
			if e != api.OK && s != "" {
				return -1
			}
			return e
		},
	}
}

// P6.1
func TestNew(t *testing.T) {
	for _, cap := range []int{math.MinInt, -1, 0, 1, 100000, math.MaxInt} {
		d := vdisk.New(cap)
		if !d.Up() || d.Size() != 0 || len(d.List()) != 0 || d.Synced("f") != 0 || d.Synced("") != 0 {
			t.Errorf("%d: %v, %d, %q", cap, d.Up(), d.Size(), d.List())
		}
	}
}

// P6.1
func TestNewOfACapBelowZero(t *testing.T) {
	for _, cap := range []int{math.MinInt, -1, 0} {
		d := vdisk.New(cap)
		want(t, "Create", d.Create("f"), api.OK)
		want(t, "no byte", d.Append("f", ""), api.OK)
		want(t, "a byte", d.Append("f", "x"), api.ErrFull)
		want(t, "Sync", d.Sync("f"), api.OK)
		wantRead(t, d, "f", "", api.OK)
	}
}

// P6.1
func TestDisksAreApart(t *testing.T) {
	a, b := vdisk.New(10), vdisk.New(10)
	a.Create("f")
	a.Crash(0)
	if !b.Up() || len(b.List()) != 0 {
		t.Error(b.List())
	}
}

// P6.1
func TestSizeCountsAllBytes(t *testing.T) {
	d := diskOf(t, map[string]string{"a": "12|345", "b": "|67", "c": "8|", "d": "|"})
	if d.Size() != 8 {
		t.Error(d.Size())
	}
	d.Delete("a")
	if d.Size() != 3 {
		t.Error(d.Size())
	}
	d.Rename("c", "b")
	if d.Size() != 1 {
		t.Error(d.Size())
	}
}

// P6.1: by bytes, whatever order files came in.
func TestListRises(t *testing.T) {
	names := []string{"\x00", "\x00\x00", " ", "10", "9", "A", "Z", "a", "a+", "aa", "ab", "b", "\x80", "é", "\xff", "\xff\xff"}
	rising := slices.Clone(names)
	slices.Sort(rising)
	d := vdisk.New(0)
	for i := range names {
		want(t, "Create", d.Create(names[(i*7)%len(names)]), api.OK)
	}
	for range 20 {
		wantList(t, d, rising...)
	}
}

// P6.1, R4
func TestListIsNew(t *testing.T) {
	d := diskOf(t, map[string]string{"a": "1|2", "b": "|3"})
	l := d.List()
	l[0], l[1] = "z", "y"
	wantList(t, d, "a", "b")
}

// P6.1
func TestSynced(t *testing.T) {
	d := diskOf(t, map[string]string{"a": "12|345", "b": "|67", "c": "8|"})
	for name, n := range map[string]int{"a": 2, "b": 0, "c": 1, "d": 0, "": 0, strings.Repeat("n", 61): 0} {
		if got := d.Synced(name); got != n {
			t.Errorf("%q: %d, want %d", name, got, n)
		}
	}
	d.Sync("a")
	if d.Synced("a") != 5 || d.Synced("b") != 0 {
		t.Error(d.Synced("a"), d.Synced("b"))
	}
}

// P6.1: these need no disk that is up.
func TestWhatIsToldOfADiskThatIsOff(t *testing.T) {
	d := diskOf(t, map[string]string{"a": "12|345", "b": "|67"})
	d.Crash(1)
	if d.Up() || d.Size() != 4 || d.Synced("a") != 3 || d.Synced("b") != 1 || d.Synced("c") != 0 {
		t.Error(d.Up(), d.Size(), d.Synced("a"), d.Synced("b"))
	}
	wantList(t, d, "a", "b")
}

// P6.2
func TestErrOffIsFirst(t *testing.T) {
	for what, call := range calls() {
		for _, name := range []string{"f", "g", "", strings.Repeat("n", 61)} {
			d := diskOf(t, map[string]string{"f": "12|3"})
			d.Crash(1)
			want(t, what+" "+name, call(d, name), api.ErrOff)
			wantList(t, d, "f")
			d.On()
			wantRead(t, d, "f", "123", api.OK)
		}
	}
}

// P6.2
func TestErrArgOfWrongNames(t *testing.T) {
	for what, call := range calls() {
		for _, name := range []string{"", strings.Repeat("n", 61), strings.Repeat("n", 300)} {
			d := diskOf(t, map[string]string{"f": "12|3"})
			want(t, what, call(d, name), api.ErrArg)
			wantList(t, d, "f")
			wantRead(t, d, "f", "123", api.OK)
		}
	}
	d := vdisk.New(10)
	want(t, "Rename of none, to no name", d.Rename("f", ""), api.ErrArg)
	want(t, "Rename of no name, to none", d.Rename("", "f"), api.ErrArg)
	want(t, "Rename of no name, to no name", d.Rename("", ""), api.ErrArg)
	want(t, "Append of too much, to no name", d.Append("", "12345678901"), api.ErrArg)
}

// P6.2: a disk that is full asks for a name all the same.
func TestErrArgIsAheadOfErrFull(t *testing.T) {
	d := vdisk.New(0)
	for i := range api.Files {
		d.Create(strconv.Itoa(i))
	}
	want(t, "Create", d.Create(""), api.ErrArg)
	want(t, "Create", d.Create("7"), api.ErrTwice)
	want(t, "Create", d.Create("f"), api.ErrFull)
}

// P6.2: a name has 1 to 60 bytes, of any kind.
func TestNames(t *testing.T) {
	for _, name := range []string{"f", "\x00", " ", "\n", "/", "..", "\xff", strings.Repeat("n", 60), strings.Repeat("é", 30), strings.Repeat("\x00", 60)} {
		d := vdisk.New(10)
		for _, e := range []api.Errno{d.Create(name), d.Append(name, "ab"), d.Sync(name), d.Rename(name, "g"), d.Rename("g", name)} {
			want(t, name, e, api.OK)
		}
		wantRead(t, d, name, "ab", api.OK)
		wantList(t, d, name)
		want(t, name, d.Delete(name), api.OK)
	}
	want(t, "31 letters of two bytes", vdisk.New(10).Create(strings.Repeat("é", 31)), api.ErrArg)
}

// P6.2
func TestCreate(t *testing.T) {
	d := vdisk.New(10)
	want(t, "Create", d.Create("f"), api.OK)
	wantRead(t, d, "f", "", api.OK)
	d.Append("f", "ab")
	want(t, "twice", d.Create("f"), api.ErrTwice)
	wantRead(t, d, "f", "ab", api.OK)
	d.Delete("f")
	want(t, "behind Delete", d.Create("f"), api.OK)
	wantRead(t, d, "f", "", api.OK)
	if d.Synced("f") != 0 {
		t.Error(d.Synced("f"))
	}
}

// P6.2
func TestCreateOfTooManyFiles(t *testing.T) {
	d := vdisk.New(10)
	for i := range 200 {
		want(t, "Create", d.Create(strconv.Itoa(i)), api.OK)
	}
	want(t, "the 201st file", d.Create("f"), api.ErrFull)
	want(t, "one that is there", d.Create("199"), api.ErrTwice)
	if len(d.List()) != 200 {
		t.Error(len(d.List()))
	}
	want(t, "Append", d.Append("199", "x"), api.OK)
	want(t, "Rename", d.Rename("199", "f"), api.OK)
	want(t, "none got free", d.Create("g"), api.ErrFull)
	want(t, "Rename", d.Rename("f", "198"), api.OK)
	want(t, "one got free", d.Create("g"), api.OK)
	want(t, "and is taken", d.Create("h"), api.ErrFull)
	want(t, "Delete", d.Delete("0"), api.OK)
	want(t, "one got free", d.Create("h"), api.OK)
}

// P6.2
func TestAppend(t *testing.T) {
	d := vdisk.New(600)
	want(t, "none", d.Append("f", "a"), api.ErrNone)
	want(t, "none, too much", d.Append("f", strings.Repeat("a", 601)), api.ErrNone)
	wantList(t, d)
	d.Create("f")
	d.Create("g")
	all := ""
	for _, s := range []string{"a", "", "\x00\xff\n", "é", "a", strings.Repeat("x", 300)} {
		want(t, s, d.Append("f", s), api.OK)
		all += s
		wantRead(t, d, "f", all, api.OK)
		if d.Synced("f") != 0 {
			t.Error(d.Synced("f"))
		}
	}
	wantRead(t, d, "g", "", api.OK)
}

// P6.2: the cap is of all files, and is reached, but not passed.
func TestAppendOfTooMuch(t *testing.T) {
	for _, cap := range []int{0, 1, 2, 10, 300} {
		d := vdisk.New(cap)
		d.Create("f")
		d.Create("g")
		half := cap / 2
		want(t, "half", d.Append("f", strings.Repeat("h", half)), api.OK)
		want(t, "a byte too much", d.Append("g", strings.Repeat("g", cap-half+1)), api.ErrFull)
		want(t, "a byte too much", d.Append("f", strings.Repeat("g", cap-half+1)), api.ErrFull)
		wantRead(t, d, "f", strings.Repeat("h", half), api.OK)
		wantRead(t, d, "g", "", api.OK)
		want(t, "the rest", d.Append("g", strings.Repeat("g", cap-half)), api.OK)
		want(t, "no byte", d.Append("g", ""), api.OK)
		want(t, "one more", d.Append("f", "x"), api.ErrFull)
		if d.Size() != cap {
			t.Error(cap, d.Size())
		}
		want(t, "Delete", d.Delete("g"), api.OK)
		want(t, "what got free", d.Append("f", strings.Repeat("f", cap-half)), api.OK)
		want(t, "no more", d.Append("f", "x"), api.ErrFull)
	}
}

// P6.2: a crash and a Rename give room back.
func TestRoomThatGotFree(t *testing.T) {
	d := vdisk.New(4)
	d.Create("f")
	d.Append("f", "1234")
	d.Crash(1)
	d.On()
	want(t, "behind a crash", d.Append("f", "abc"), api.OK)
	want(t, "no more", d.Append("f", "d"), api.ErrFull)
	d.Create("g")
	d.Rename("g", "f")
	want(t, "behind a Rename", d.Append("f", "1234"), api.OK)
}

// P6.2
func TestSync(t *testing.T) {
	d := diskOf(t, map[string]string{"f": "12|3", "g": "|4"})
	want(t, "none", d.Sync("h"), api.ErrNone)
	want(t, "Sync", d.Sync("f"), api.OK)
	if d.Synced("f") != 3 || d.Synced("g") != 0 {
		t.Error(d.Synced("f"), d.Synced("g"))
	}
	want(t, "again", d.Sync("f"), api.OK)
	d.Append("f", "45")
	if d.Synced("f") != 3 {
		t.Error(d.Synced("f"))
	}
	wantRead(t, d, "f", "12345", api.OK)
}

// P6.2: a file takes what is synced of it with it.
func TestRename(t *testing.T) {
	d := diskOf(t, map[string]string{"f": "12|3", "g": "4567|8"})
	want(t, "none", d.Rename("h", "f"), api.ErrNone)
	want(t, "none, to itself", d.Rename("h", "h"), api.ErrNone)
	wantList(t, d, "f", "g")
	want(t, "to a new name", d.Rename("f", "h"), api.OK)
	wantList(t, d, "g", "h")
	wantRead(t, d, "h", "123", api.OK)
	wantRead(t, d, "f", "", api.ErrNone)
	if d.Synced("h") != 2 || d.Synced("f") != 0 {
		t.Error(d.Synced("h"), d.Synced("f"))
	}
	want(t, "to a name that is there", d.Rename("h", "g"), api.OK)
	wantList(t, d, "g")
	wantRead(t, d, "g", "123", api.OK)
	if d.Synced("g") != 2 || d.Size() != 3 {
		t.Error(d.Synced("g"), d.Size())
	}
	want(t, "to its own name", d.Rename("g", "g"), api.OK)
	wantRead(t, d, "g", "123", api.OK)
	if d.Synced("g") != 2 {
		t.Error(d.Synced("g"))
	}
}

// P6.2: what is done to a file by its new name is not seen by its old one.
func TestRenameLeavesNothing(t *testing.T) {
	d := diskOf(t, map[string]string{"f": "12|3"})
	d.Rename("f", "g")
	d.Create("f")
	d.Append("g", "x")
	d.Append("f", "y")
	wantRead(t, d, "f", "y", api.OK)
	wantRead(t, d, "g", "123x", api.OK)
}

// P6.2
func TestDelete(t *testing.T) {
	d := diskOf(t, map[string]string{"f": "12|3", "g": "4|"})
	want(t, "none", d.Delete("h"), api.ErrNone)
	want(t, "Delete", d.Delete("f"), api.OK)
	want(t, "twice", d.Delete("f"), api.ErrNone)
	wantRead(t, d, "f", "", api.ErrNone)
	wantRead(t, d, "g", "4", api.OK)
	wantList(t, d, "g")
	if d.Size() != 1 || d.Synced("f") != 0 {
		t.Error(d.Size(), d.Synced("f"))
	}
	want(t, "Append", d.Append("f", "x"), api.ErrNone)
	want(t, "Sync", d.Sync("f"), api.ErrNone)
}

// P6.2
func TestRead(t *testing.T) {
	d := diskOf(t, map[string]string{"f": "12|3", "g": "|"})
	wantRead(t, d, "f", "123", api.OK)
	wantRead(t, d, "f", "123", api.OK)
	wantRead(t, d, "g", "", api.OK)
	wantRead(t, d, "h", "", api.ErrNone)
}
