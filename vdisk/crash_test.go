package vdisk_test

import (
	"math"
	"strings"
	"testing"

	"rickyard/api"
	"rickyard/vdisk"
)

// P6.3
func TestCrashOfTheDocument(t *testing.T) {
	d := vdisk.New(100)
	d.Create("f")
	d.Append("f", "ab")
	d.Sync("f")
	d.Append("f", "cd")
	d.Crash(1)
	d.On()
	wantRead(t, d, "f", "abc", api.OK)
}

// P6.3: each file's own bytes that are not synced count, and all that stay are synced.
func TestCrash(t *testing.T) {
	for keep, wants := range map[int][4]string{
		math.MinInt: {"ab", "", "xyz", ""},
		-3:          {"ab", "", "xyz", ""},
		-1:          {"ab", "", "xyz", ""},
		0:           {"ab", "", "xyz", ""},
		1:           {"abc", "1", "xyz", ""},
		2:           {"abcd", "", "xyz", ""},
		3:           {"abcde", "1", "xyz", ""},
		4:           {"ab", "", "xyz", ""},
		5:           {"abc", "1", "xyz", ""},
		7:           {"abcde", "1", "xyz", ""},
		math.MaxInt: {"abcde", "1", "xyz", ""},
	} {
		d := diskOf(t, map[string]string{"f": "ab|cde", "g": "|1", "h": "xyz|", "i": "|"})
		d.Crash(keep)
		if d.Up() {
			t.Error("it is up", keep)
		}
		for again := range 3 {
			d.On()
			size := 0
			for i, name := range []string{"f", "g", "h", "i"} {
				wantRead(t, d, name, wants[i], api.OK)
				if d.Synced(name) != len(wants[i]) {
					t.Error(keep, again, name, d.Synced(name))
				}
				size += len(wants[i])
			}
			if d.Size() != size {
				t.Error(keep, again, d.Size())
			}
			// All is synced by now: another crash takes nothing, whatever its keep.
			d.Crash(again)
			d.Crash(-again)
		}
	}
}

// P6.1, P6.3
func TestOn(t *testing.T) {
	d := diskOf(t, map[string]string{"f": "|ab"})
	d.On()
	if !d.Up() || d.Synced("f") != 0 {
		t.Error(d.Up(), d.Synced("f"))
	}
	d.Crash(2)
	if d.Up() {
		t.Error("it is up")
	}
	d.On()
	if !d.Up() {
		t.Error("it is not up")
	}
	want(t, "Append", d.Append("f", "c"), api.OK)
	wantRead(t, d, "f", "abc", api.OK)
	if d.Synced("f") != 2 {
		t.Error(d.Synced("f"))
	}
}

// P6.1: a fuse, wherever it was laid, does not outlive On.
func TestOnTakesTheFuseAway(t *testing.T) {
	for what, lay := range map[string]func(d *vdisk.Disk){
		"up": func(d *vdisk.Disk) { d.Fuse(2, 1) },
		"a crash behind": func(d *vdisk.Disk) {
			d.Fuse(2, 1)
			d.Crash(0)
		},
		"a crash ahead": func(d *vdisk.Disk) {
			d.Crash(0)
			d.Fuse(2, 1)
		},
		"half burnt": func(d *vdisk.Disk) {
			d.Fuse(2, 1)
			d.Sync("f")
		},
		"burnt": func(d *vdisk.Disk) {
			d.Fuse(1, 1)
			d.Sync("f")
		},
	} {
		d := diskOf(t, map[string]string{"f": "ab|"})
		lay(d)
		d.On()
		for range 5 {
			want(t, what, d.Append("f", "c"), api.OK)
		}
		if !d.Up() {
			t.Error(what)
		}
	}
}

// P6.3
func TestFuseAtAppend(t *testing.T) {
	for keep, left := range map[int]string{math.MinInt: "ab", -1: "ab", 0: "ab", 1: "abc", 2: "abcd", 3: "abcde", 4: "abcdef", 5: "ab", 6: "abc", 9: "abcdef"} {
		d := diskOf(t, map[string]string{"f": "ab|cd"})
		d.Fuse(1, keep)
		want(t, "Append", d.Append("f", "ef"), api.ErrOff)
		if d.Up() || d.Synced("f") != len(left) {
			t.Error(keep, d.Up(), d.Synced("f"))
		}
		d.On()
		wantRead(t, d, "f", left, api.OK)
	}
}

// P6.3: any other call than Append is done if keep is odd; f has five bytes that are not synced,
// g has two.
func TestFuseAtOtherCalls(t *testing.T) {
	for _, x := range []struct {
		what      string
		call      func(d *vdisk.Disk) api.Errno
		keep      int
		done      bool
		f, g, new string
	}{
		{"Sync", func(d *vdisk.Disk) api.Errno { return d.Sync("f") }, 2, false, "ab12", "cde", "-"},
		{"Sync", func(d *vdisk.Disk) api.Errno { return d.Sync("f") }, 0, false, "ab", "c", "-"},
		{"Sync", func(d *vdisk.Disk) api.Errno { return d.Sync("f") }, -2, false, "ab", "c", "-"},
		{"Sync", func(d *vdisk.Disk) api.Errno { return d.Sync("f") }, 1, true, "ab12345", "cd", "-"},
		{"Sync", func(d *vdisk.Disk) api.Errno { return d.Sync("f") }, 3, true, "ab12345", "c", "-"},
		{"Sync", func(d *vdisk.Disk) api.Errno { return d.Sync("f") }, -1, true, "ab12345", "c", "-"},
		{"Create", func(d *vdisk.Disk) api.Errno { return d.Create("new") }, 4, false, "ab1234", "cd", "-"},
		{"Create", func(d *vdisk.Disk) api.Errno { return d.Create("new") }, 5, true, "ab12345", "cde", ""},
		{"Create", func(d *vdisk.Disk) api.Errno { return d.Create("new") }, -7, true, "ab", "c", ""},
		{"Rename", func(d *vdisk.Disk) api.Errno { return d.Rename("f", "new") }, 2, false, "ab12", "cde", "-"},
		{"Rename", func(d *vdisk.Disk) api.Errno { return d.Rename("f", "new") }, 1, true, "-", "cd", "ab1"},
		{"Rename", func(d *vdisk.Disk) api.Errno { return d.Rename("f", "new") }, -1, true, "-", "c", "ab"},
		{"Rename over", func(d *vdisk.Disk) api.Errno { return d.Rename("f", "g") }, 6, false, "ab", "c", "-"},
		{"Rename over", func(d *vdisk.Disk) api.Errno { return d.Rename("f", "g") }, 7, true, "-", "ab1", "-"},
		{"Rename to itself", func(d *vdisk.Disk) api.Errno { return d.Rename("f", "f") }, 2, false, "ab12", "cde", "-"},
		{"Rename to itself", func(d *vdisk.Disk) api.Errno { return d.Rename("f", "f") }, 3, true, "ab123", "c", "-"},
		{"Delete", func(d *vdisk.Disk) api.Errno { return d.Delete("f") }, 2, false, "ab12", "cde", "-"},
		{"Delete", func(d *vdisk.Disk) api.Errno { return d.Delete("f") }, 1, true, "-", "cd", "-"},
		{"Delete", func(d *vdisk.Disk) api.Errno { return d.Delete("f") }, math.MinInt, false, "ab", "c", "-"},
		{"Delete", func(d *vdisk.Disk) api.Errno { return d.Delete("f") }, math.MinInt + 1, true, "-", "c", "-"},
	} {
		d := diskOf(t, map[string]string{"f": "ab|12345", "g": "c|de"})
		d.Fuse(1, x.keep)
		want(t, x.what, x.call(d), api.ErrOff)
		if d.Up() {
			t.Error(x.what, x.keep, "it is up")
		}
		d.On()
		for name, bytes := range map[string]string{"f": x.f, "g": x.g, "new": x.new} {
			e := api.OK
			if bytes == "-" {
				bytes, e = "", api.ErrNone
			}
			wantRead(t, d, name, bytes, e)
			if d.Synced(name) != len(bytes) {
				t.Error(x.what, x.keep, name, d.Synced(name))
			}
		}
	}
}

// P6.3: the calls ahead of the last one are done whole.
func TestFuseCounts(t *testing.T) {
	for n := 1; n <= 20; n++ {
		d := diskOf(t, map[string]string{"f": "|"})
		d.Fuse(n, 0)
		for i := 1; i < n; i++ {
			want(t, "ahead", d.Append("f", "x"), api.OK)
			if d.Synced("f") != 0 || !d.Up() {
				t.Error(n, i)
			}
		}
		wantRead(t, d, "f", strings.Repeat("x", n-1), api.OK)
		want(t, "the last one", d.Append("f", "x"), api.ErrOff)
		want(t, "behind", d.Append("f", "x"), api.ErrOff)
		d.On()
		wantRead(t, d, "f", "", api.OK)
	}
}

// P6.3: what has an error of its own, Read, and what only tells do not count; all others do.
func TestWhatTheFuseCounts(t *testing.T) {
	d := diskOf(t, map[string]string{"f": "ab|c"})
	d.Fuse(7, 1)
	free := func() {
		want(t, "Create", d.Create("f"), api.ErrTwice)
		want(t, "Create", d.Create(""), api.ErrArg)
		want(t, "Append", d.Append("none", "x"), api.ErrNone)
		want(t, "Append", d.Append("f", strings.Repeat("x", 1000)), api.ErrFull)
		want(t, "Sync", d.Sync("none"), api.ErrNone)
		want(t, "Rename", d.Rename("none", "f"), api.ErrNone)
		want(t, "Rename", d.Rename("f", ""), api.ErrArg)
		want(t, "Delete", d.Delete("none"), api.ErrNone)
		wantRead(t, d, "f", "abc", api.OK)
		wantRead(t, d, "none", "", api.ErrNone)
		if !d.Up() || d.Size() != 3 || d.Synced("f") < 2 || len(d.List()) < 1 {
			t.Error(d.Up(), d.Size(), d.List())
		}
	}
	free()
	for i, call := range []func() api.Errno{
		func() api.Errno { return d.Create("g") },
		func() api.Errno { return d.Append("f", "") },
		func() api.Errno { return d.Sync("f") },
		func() api.Errno { return d.Rename("g", "h") },
		func() api.Errno { return d.Rename("h", "h") },
		func() api.Errno { return d.Delete("h") },
	} {
		if e := call(); e != api.OK {
			t.Error(i, e)
		}
		free()
	}
	want(t, "the seventh", d.Sync("f"), api.ErrOff)
}

// P6.3: of a disk that is full the calls that answer ErrFull do not count.
func TestFuseOfAFullDisk(t *testing.T) {
	d := vdisk.New(0)
	for i := range api.Files {
		d.Create(strings.Repeat("n", 1+i%50) + string(rune('a'+i/50)))
	}
	d.Fuse(1, 1)
	for range 3 {
		want(t, "Create", d.Create("f"), api.ErrFull)
	}
	want(t, "Delete", d.Delete("na"), api.ErrOff)
	if len(d.List()) != api.Files-1 {
		t.Error(len(d.List()))
	}
}

// P6.3
func TestNoFuse(t *testing.T) {
	for _, n := range []int{math.MinInt, -1, 0} {
		for _, earlier := range []int{0, 1, 3} {
			d := diskOf(t, map[string]string{"f": "|"})
			d.Fuse(earlier, 1)
			d.Fuse(n, 1)
			for range 10 {
				want(t, "Append", d.Append("f", "x"), api.OK)
			}
		}
	}
}

// P6.3
func TestALaterFuse(t *testing.T) {
	for _, x := range []struct{ first, later int }{{1, 3}, {3, 1}, {2, 2}, {math.MaxInt, 2}} {
		d := diskOf(t, map[string]string{"f": "|ab"})
		d.Fuse(x.first, 0)
		d.Fuse(x.later, 1)
		for i := 1; i < x.later; i++ {
			want(t, "ahead", d.Rename("f", "f"), api.OK)
		}
		want(t, "the last one", d.Sync("f"), api.ErrOff)
		d.On()
		wantRead(t, d, "f", "ab", api.OK)
	}
	d := diskOf(t, map[string]string{"f": "|"})
	d.Fuse(2, 0)
	want(t, "one", d.Append("f", "a"), api.OK)
	d.Fuse(2, 0)
	want(t, "one of the later fuse", d.Append("f", "b"), api.OK)
	want(t, "two of it", d.Append("f", "c"), api.ErrOff)
}

// P6.3: a fuse that is never reached.
func TestALongFuse(t *testing.T) {
	d := diskOf(t, map[string]string{"f": "|"})
	d.Fuse(math.MaxInt, math.MaxInt)
	for range 150 {
		want(t, "Append", d.Append("f", "x"), api.OK)
	}
}
