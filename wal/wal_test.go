package wal_test

import (
	"slices"
	"strings"
	"testing"

	"rickyard/api"
	"rickyard/crc"
	"rickyard/vdisk"
	"rickyard/wal"
)

const (
	room    = 1000
	maxText = 65535
)

func want(t *testing.T, what string, got, want api.Errno) {
	t.Helper()
	if got != want {
		t.Errorf("%s: the error %d, want %d", what, got, want)
	}
}

// bytesOf is what a file of these texts has.
func bytesOf(t *testing.T, texts ...string) string {
	t.Helper()
	var out string
	for _, text := range texts {
		s, e := crc.Put(text)
		want(t, "Put", e, api.OK)
		out += s
	}
	return out
}

// wantFile asks that the file is there, with these bytes, all of them synced.
func wantFile(t *testing.T, d *vdisk.Disk, name, bytes string) {
	t.Helper()
	if s, e := d.Read(name); s != bytes || e != api.OK || d.Synced(name) != len(bytes) {
		t.Errorf("the file %q: %q, %d of it synced, %d, want %q", name, s, d.Synced(name), e, bytes)
	}
}

func wantList(t *testing.T, d *vdisk.Disk, names ...string) {
	t.Helper()
	if got := d.List(); !slices.Equal(got, names) {
		t.Errorf("List: %q, want %q", got, names)
	}
}

func wantLog(t *testing.T, what string, l *wal.Log, many int, off bool) {
	t.Helper()
	if l.Many() != many || l.Off() != off {
		t.Errorf("%s: Many %d, Off %v, want %d, %v", what, l.Many(), l.Off(), many, off)
	}
}

// open opens the log w, that has to have these texts.
func open(t *testing.T, d *vdisk.Disk, texts ...string) *wal.Log {
	t.Helper()
	l, got, e := wal.Open(d, "w")
	if e != api.OK || l == nil || !slices.Equal(got, texts) {
		t.Fatalf("Open: %q, %d, want %q", got, e, texts)
	}
	wantLog(t, "opened", l, len(texts), false)
	return l
}

func openFails(t *testing.T, d *vdisk.Disk, name string, e api.Errno) {
	t.Helper()
	if l, texts, got := wal.Open(d, name); got != e || l != nil || len(texts) != 0 {
		t.Errorf("Open of %q: %v, %q, the error %d, want %d", name, l, texts, got, e)
	}
}

// logOf is a log w of these texts, on a disk of its own.
func logOf(t *testing.T, cap int, texts ...string) (*vdisk.Disk, *wal.Log) {
	t.Helper()
	d := vdisk.New(cap)
	l := open(t, d)
	if len(texts) > 0 {
		want(t, "Append", l.Append(texts...), api.OK)
	}
	return d, l
}

// lay makes a file of these bytes, none of which is synced.
func lay(t *testing.T, d *vdisk.Disk, name, bytes string) {
	t.Helper()
	want(t, "Create", d.Create(name), api.OK)
	want(t, "Append", d.Append(name, bytes), api.OK)
}

// fill makes files till there are many.
func fill(t *testing.T, d *vdisk.Disk, many int) {
	t.Helper()
	for i := 0; len(d.List()) < many; i++ {
		want(t, "Create", d.Create("f"+strings.Repeat("x", i%50)+string(rune('a'+i/50))), api.OK)
	}
}

// turned is s with a bit of its last byte turned.
func turned(s string) string {
	return s[:len(s)-1] + string([]byte{s[len(s)-1] ^ 1})
}

// changes is both calls that change a log, each with how many calls of the disk it takes.
func changes() map[string]struct {
	call  func(l *wal.Log, texts ...string) api.Errno
	calls int
} {
	return map[string]struct {
		call  func(l *wal.Log, texts ...string) api.Errno
		calls int
	}{"Append": {(*wal.Log).Append, 2}, "Reset": {(*wal.Log).Reset, 4}}
}

// The document's example.
func TestLogOfTheDocument(t *testing.T) {
	d, l := logOf(t, room)
	want(t, "Append", l.Append("a"), api.OK)
	want(t, "Append", l.Append("b"), api.OK)
	want(t, "Reset", l.Reset("c"), api.OK)
	open(t, d, "c")
}

// P11.1
func TestOpenOfNoFile(t *testing.T) {
	d := vdisk.New(0)
	open(t, d)
	wantFile(t, d, "w", "")
	wantList(t, d, "w")
}

// P11.1: 60 bytes are a name of the disk, but none of a log; ErrArg stands ahead of the disk's errors.
func TestOpenOfANameThatIsNone(t *testing.T) {
	for _, name := range []string{"", strings.Repeat("n", 60), strings.Repeat("n", 61), strings.Repeat("n", 300)} {
		d := vdisk.New(room)
		openFails(t, d, name, api.ErrArg)
		wantList(t, d)
		d.Crash(0)
		openFails(t, d, name, api.ErrArg)
	}
}

// P11.1
func TestOpenOfEachLengthOfName(t *testing.T) {
	for n := 1; n <= 59; n++ {
		for _, name := range []string{strings.Repeat("n", n), strings.Repeat("+", n), strings.Repeat("\x00", n), strings.Repeat("\xff", n)} {
			d := vdisk.New(room)
			l, texts, e := wal.Open(d, name)
			if e != api.OK || len(texts) != 0 {
				t.Fatal(n, texts, e)
			}
			want(t, "Append", l.Append("a"), api.OK)
			want(t, "Reset", l.Reset("b"), api.OK)
			wantList(t, d, name)
			wantFile(t, d, name, bytesOf(t, "b"))
		}
	}
}

// P11.1
func TestOpenOfADiskThatIsNotUp(t *testing.T) {
	d, _ := logOf(t, room, "a")
	d.Crash(0)
	openFails(t, d, "w", api.ErrOff)
	openFails(t, d, "none", api.ErrOff)
	d.On()
	open(t, d, "a")
	wantList(t, d, "w")
}

// P11.1: a file that is whole is synced, and nothing else is done.
func TestOpenSyncs(t *testing.T) {
	for _, texts := range [][]string{{}, {""}, {"a"}, {"a", "", "\x00\xff", strings.Repeat("x", 200)}} {
		d := vdisk.New(room)
		lay(t, d, "w", bytesOf(t, texts...))
		lay(t, d, "w+", "left")
		d.Fuse(2, 1)
		open(t, d, texts...)
		wantFile(t, d, "w", bytesOf(t, texts...))
		wantList(t, d, "w", "w+")
		want(t, "the second call", d.Delete("w+"), api.ErrOff)
	}
}

// P11.1: a sync that is cut is Open's error.
func TestOpenWhoseSyncIsCut(t *testing.T) {
	for keep, texts := range [][]string{{"a"}, {"a", "b"}} {
		d, _ := logOf(t, room, "a")
		want(t, "Append", d.Append("w", bytesOf(t, "b")), api.OK)
		d.Fuse(1, keep)
		openFails(t, d, "w", api.ErrOff)
		d.On()
		open(t, d, texts...)
	}
}

// P11.1: what is behind the texts goes, whatever it is.
func TestOpenCutsOff(t *testing.T) {
	a := bytesOf(t, "a")
	long := bytesOf(t, strings.Repeat("x", 300))
	for _, texts := range [][]string{{}, {""}, {"b"}, {"b", "", "c"}} {
		for _, end := range []string{"\x00", a[:1], a[:5], a[:6], long[:299], turned(a), turned(a) + a, "\x00\x00\x00\x00\x00\x00", "\x05\x00abc", "+"} {
			d := vdisk.New(room)
			lay(t, d, "w", bytesOf(t, texts...)+end)
			l := open(t, d, texts...)
			wantFile(t, d, "w", bytesOf(t, texts...))
			wantList(t, d, "w")
			want(t, "Append", l.Append("d"), api.OK)
			open(t, d, slices.Concat(texts, []string{"d"})...)
		}
	}
}

// P11.1: each beginning of a file tells the texts that are whole in it.
func TestOpenOfEachBeginning(t *testing.T) {
	texts := []string{"one", "", "three", "\xff"}
	whole := bytesOf(t, texts...)
	for n := range len(whole) + 1 {
		many := 0
		for many < len(texts) && len(bytesOf(t, texts[:many+1]...)) <= n {
			many++
		}
		d := vdisk.New(room)
		lay(t, d, "w", whole[:n])
		open(t, d, texts[:many]...)
		wantFile(t, d, "w", bytesOf(t, texts[:many]...))
	}
}

// P11.1: a file that has to be written needs room for another one, of its texts.
func TestOpenWithoutRoom(t *testing.T) {
	whole := bytesOf(t, "abc")
	for _, x := range []struct {
		spare int
		e     api.Errno
	}{{0, api.ErrFull}, {len(whole) - 1, api.ErrFull}, {len(whole), api.OK}} {
		d := vdisk.New(len(whole) + 1 + x.spare)
		lay(t, d, "w", whole+"x")
		if x.e == api.OK {
			open(t, d, "abc")
			wantFile(t, d, "w", whole)
			continue
		}
		openFails(t, d, "w", x.e)
		if s, e := d.Read("w"); s != whole+"x" || e != api.OK {
			t.Errorf("%q, %d", s, e)
		}
	}
}

// P11.1: of as many files as there may be none is made beside them.
func TestOpenWithoutAFileToSpare(t *testing.T) {
	d := vdisk.New(room)
	lay(t, d, "w", bytesOf(t, "a"))
	fill(t, d, api.Files)
	openFails(t, d, "v", api.ErrFull)
	open(t, d, "a")
	want(t, "Append", d.Append("w", "x"), api.OK)
	openFails(t, d, "w", api.ErrFull)
	if len(d.List()) != api.Files {
		t.Error(len(d.List()))
	}
}

// P11.1: writing takes Create, Append, Sync and Rename, and Delete ahead, if a file is in the way.
func TestWhatOpenCalls(t *testing.T) {
	for what, x := range map[string]struct {
		files map[string]string
		calls int
	}{
		"no file":              {nil, 4},
		"no file, one left":    {map[string]string{"w+": "left"}, 5},
		"an end":               {map[string]string{"w": "x"}, 4},
		"an end, and one left": {map[string]string{"w": "x", "w+": "left"}, 5},
		"whole":                {map[string]string{"w": ""}, 1},
		"whole, and one left":  {map[string]string{"w": "", "w+": "left"}, 1},
	} {
		for n := 1; n <= x.calls+1; n++ {
			d := vdisk.New(room)
			for name, bytes := range x.files {
				lay(t, d, name, bytes)
			}
			d.Fuse(n, 0)
			if n <= x.calls {
				openFails(t, d, "w", api.ErrOff)
			} else if _, _, e := wal.Open(d, "w"); e != api.OK {
				t.Errorf("%s: %d calls, the error %d", what, n, e)
			}
			if d.Up() != (n > x.calls) {
				t.Errorf("%s: %d calls: up %v", what, n, d.Up())
			}
		}
	}
}

// P11.2
func TestAppend(t *testing.T) {
	d, l := logOf(t, room)
	var all []string
	for _, texts := range [][]string{{"a"}, {}, {"", ""}, {"b", "c", "b"}, {strings.Repeat("x", 300)}, {"\x00", "\xff\xfe"}} {
		want(t, "Append", l.Append(texts...), api.OK)
		all = append(all, texts...)
		wantFile(t, d, "w", bytesOf(t, all...))
		wantLog(t, "behind", l, len(all), false)
		wantList(t, d, "w")
	}
	open(t, d, all...)
}

// P11.2
func TestReset(t *testing.T) {
	d, l := logOf(t, room, "a", "b")
	for _, texts := range [][]string{{"c"}, {}, {"", ""}, {"b", "c", "b"}, {strings.Repeat("x", 300)}, {"\x00", "\xff\xfe"}, {}} {
		want(t, "Reset", l.Reset(texts...), api.OK)
		wantFile(t, d, "w", bytesOf(t, texts...))
		wantLog(t, "behind", l, len(texts), false)
		wantList(t, d, "w")
		open(t, d, texts...)
	}
	want(t, "Append", l.Append("d"), api.OK)
	open(t, d, "d")
}

// P11.2: a file that an earlier write has left goes.
func TestResetOverAFileThatWasLeft(t *testing.T) {
	for _, left := range []string{"", "left", bytesOf(t, "left")} {
		d, l := logOf(t, room, "a")
		lay(t, d, "w+", left)
		want(t, "Append", l.Append("b"), api.OK)
		wantList(t, d, "w", "w+")
		want(t, "Reset", l.Reset("c"), api.OK)
		wantList(t, d, "w")
		wantFile(t, d, "w", bytesOf(t, "c"))
	}
}

// P11.2: the longest text that may be, and the shortest one that may not, wherever it stands.
func TestWide(t *testing.T) {
	longest, wide := strings.Repeat("x", maxText), strings.Repeat("x", maxText+1)
	for what, x := range changes() {
		d, l := logOf(t, 10*maxText, "a")
		for _, texts := range [][]string{{wide}, {"b", wide}, {wide, "b"}, {"b", wide, "c", wide}, {longest, wide}, {wide + wide}} {
			d.Fuse(1, 1)
			want(t, what, x.call(l, texts...), api.ErrWide)
			d.Fuse(0, 0)
			wantLog(t, what, l, 1, false)
			wantFile(t, d, "w", bytesOf(t, "a"))
			wantList(t, d, "w")
		}
		want(t, what, x.call(l, longest, longest), api.OK)
	}
	d, l := logOf(t, 10*maxText, longest)
	wantFile(t, d, "w", bytesOf(t, longest))
	want(t, "Reset", l.Reset(longest, "b"), api.OK)
	open(t, d, longest, "b")
}

// P11.2: ErrWide stands ahead of the disk's errors, and does not make it off; ErrOff, once it is
// off, stands ahead of ErrWide.
func TestWideOfADiskThatIsNotUp(t *testing.T) {
	wide := strings.Repeat("x", maxText+1)
	for what, x := range changes() {
		d, l := logOf(t, room, "a")
		d.Crash(0)
		want(t, what, x.call(l, wide), api.ErrWide)
		wantLog(t, what, l, 1, false)
		want(t, what, x.call(l, "b"), api.ErrOff)
		wantLog(t, what, l, 1, true)
		want(t, what, x.call(l, wide), api.ErrOff)
		d.On()
		want(t, what, x.call(l, wide), api.ErrOff)
	}
}

// P11.2: of ErrFull nothing changed, and the log goes on.
func TestAppendWithoutRoom(t *testing.T) {
	d, l := logOf(t, 20, "a")
	for range 3 {
		want(t, "Append", l.Append(strings.Repeat("x", 8)), api.ErrFull)
		want(t, "Append", l.Append("", "", ""), api.ErrFull)
		wantLog(t, "Append", l, 1, false)
		wantFile(t, d, "w", bytesOf(t, "a"))
		wantList(t, d, "w")
	}
	want(t, "Append", l.Append(strings.Repeat("x", 7)), api.OK)
	want(t, "Append", l.Append(), api.OK)
	want(t, "Append", l.Append(""), api.ErrFull)
	wantLog(t, "Append", l, 2, false)
	open(t, d, "a", strings.Repeat("x", 7))
}

// P11.2: the texts that were, and those that are written, stand side by side for a while.
func TestResetWithoutRoom(t *testing.T) {
	d, l := logOf(t, 20, "a")
	for range 3 {
		want(t, "Reset", l.Reset(strings.Repeat("x", 8)), api.ErrFull)
		wantLog(t, "Reset", l, 1, false)
		wantFile(t, d, "w", bytesOf(t, "a"))
		open(t, d, "a")
	}
	want(t, "Append", l.Append("b"), api.OK)
	want(t, "Reset", l.Reset("c"), api.ErrFull)
	want(t, "Reset", l.Reset(""), api.OK)
	wantLog(t, "Reset", l, 1, false)
	wantFile(t, d, "w", bytesOf(t, ""))
	wantList(t, d, "w")
	want(t, "Reset", l.Reset(strings.Repeat("x", 8)), api.OK)
	open(t, d, strings.Repeat("x", 8))
}

// P11.2: the file that was left takes room till it is deleted, and that comes first.
func TestResetWithRoomThatAFileHolds(t *testing.T) {
	d, l := logOf(t, 20, "a")
	lay(t, d, "w+", strings.Repeat("x", 13))
	want(t, "Append", l.Append(""), api.ErrFull)
	want(t, "Reset", l.Reset("bc"), api.OK)
	wantFile(t, d, "w", bytesOf(t, "bc"))
	wantList(t, d, "w")
}

// P11.2
func TestResetWithoutAFileToSpare(t *testing.T) {
	d, l := logOf(t, room, "a")
	fill(t, d, api.Files)
	want(t, "Reset", l.Reset("b"), api.ErrFull)
	wantLog(t, "Reset", l, 1, false)
	want(t, "Append", l.Append("b"), api.OK)
	open(t, d, "a", "b")
	want(t, "Delete", d.Delete(d.List()[0]), api.OK)
	want(t, "Reset", l.Reset("c"), api.OK)
	wantFile(t, d, "w", bytesOf(t, "c"))
}

// P11.2: Append takes two calls of the disk, also of no texts; Reset takes four.
func TestWhatChangesCall(t *testing.T) {
	for what, x := range changes() {
		for _, texts := range [][]string{{}, {"b"}, {"b", "c", "d"}} {
			for n := 1; n <= x.calls+1; n++ {
				d, l := logOf(t, room, "a")
				d.Fuse(n, 0)
				e := x.call(l, texts...)
				if cut := n <= x.calls; (e == api.ErrOff) != cut || (e == api.OK) == cut || l.Off() != cut || d.Up() == cut {
					t.Errorf("%s of %q: fuse %d: %d, Off %v, Up %v", what, texts, n, e, l.Off(), d.Up())
				}
				if e != api.OK {
					wantLog(t, what, l, 1, true)
				}
			}
		}
	}
}

// P11.2: a file in the way is one call more, and being cut at it makes the log off.
func TestResetThatIsCutAtTheFileThatWasLeft(t *testing.T) {
	for n := 1; n <= 5; n++ {
		for keep := range 2 {
			d, l := logOf(t, room, "a")
			lay(t, d, "w+", bytesOf(t, "left"))
			d.Fuse(n, keep)
			want(t, "Reset", l.Reset("b"), api.ErrOff)
			wantLog(t, "Reset", l, 1, true)
			d.On()
			if n == 5 && keep == 1 {
				open(t, d, "b")
			} else {
				open(t, d, "a")
			}
		}
	}
}

// P11.2: what is off stays off, though the disk is up again; no call comes to the disk.
func TestOffIsForGood(t *testing.T) {
	for what, x := range changes() {
		d, l := logOf(t, room, "a")
		d.Crash(0)
		wantLog(t, "nothing was asked of it yet", l, 1, false)
		want(t, what, x.call(l, "b"), api.ErrOff)
		wantLog(t, what, l, 1, true)
		d.On()
		d.Fuse(1, 1)
		for range 3 {
			want(t, "Append", l.Append("b"), api.ErrOff)
			want(t, "Append of none", l.Append(), api.ErrOff)
			want(t, "Reset", l.Reset("b"), api.ErrOff)
			want(t, "Reset to none", l.Reset(), api.ErrOff)
			wantLog(t, what, l, 1, true)
		}
		if !d.Up() {
			t.Error(what, "the fuse was reached")
		}
		d.On()
		want(t, "another log", open(t, d, "a").Append("b"), api.OK)
		wantLog(t, what, l, 1, true)
		open(t, d, "a", "b")
	}
}

// P11.2: a log to which nothing was said while the disk was down goes on.
func TestACrashThatTheLogDidNotMeet(t *testing.T) {
	d, l := logOf(t, room, "a")
	d.Crash(3)
	d.On()
	want(t, "Append", l.Append("b"), api.OK)
	wantLog(t, "behind", l, 2, false)
	open(t, d, "a", "b")
}

// P11.2: an error of the disk that is neither ErrOff nor ErrFull makes it off too.
func TestAppendToAFileThatIsGone(t *testing.T) {
	for _, texts := range [][]string{{}, {"b"}} {
		d, l := logOf(t, room, "a")
		want(t, "Delete", d.Delete("w"), api.OK)
		want(t, "Append", l.Append(texts...), api.ErrNone)
		wantLog(t, "Append", l, 1, true)
		want(t, "Append", l.Append(texts...), api.ErrOff)
		want(t, "Reset", l.Reset("c"), api.ErrOff)
		wantList(t, d)
	}
}

// P11.2: of a file that is gone another one is written.
func TestResetOfAFileThatIsGone(t *testing.T) {
	d, l := logOf(t, room, "a")
	want(t, "Delete", d.Delete("w"), api.OK)
	want(t, "Reset", l.Reset("b", "c"), api.OK)
	wantLog(t, "Reset", l, 2, false)
	open(t, d, "b", "c")
}

// P11.2: Many counts what the log itself did.
func TestManyIsWhatItKnows(t *testing.T) {
	d, l := logOf(t, room, "a")
	other := open(t, d, "a")
	want(t, "Append", other.Append("b", "c"), api.OK)
	wantLog(t, "the one", l, 1, false)
	wantLog(t, "the other one", other, 3, false)
	want(t, "Append", l.Append("d"), api.OK)
	wantLog(t, "the one", l, 2, false)
	want(t, "Reset", other.Reset(), api.OK)
	wantLog(t, "the one", l, 2, false)
	wantLog(t, "the other one", other, 0, false)
	open(t, d)
}

// Logs of one disk, and of two, have nothing to do with each other.
func TestLogsAreApart(t *testing.T) {
	d, l := logOf(t, room, "a")
	v, _, e := wal.Open(d, "v")
	want(t, "Open", e, api.OK)
	elsewhere, there := logOf(t, room, "z")
	want(t, "Append", v.Append("b", "c"), api.OK)
	want(t, "Append", there.Append("y"), api.OK)
	want(t, "Reset", l.Reset("d"), api.OK)
	wantFile(t, d, "v", bytesOf(t, "b", "c"))
	wantFile(t, d, "w", bytesOf(t, "d"))
	wantFile(t, elsewhere, "w", bytesOf(t, "z", "y"))
	wantLog(t, "v", v, 2, false)
	wantLog(t, "w", l, 1, false)
	elsewhere.Crash(0)
	want(t, "Append", there.Append("x"), api.ErrOff)
	wantLog(t, "there", there, 2, true)
	wantLog(t, "w", l, 1, false)
}

// R4: texts that are handed in are neither changed nor kept, and those that are answered are nobody
// else's.
func TestTextsAreNotShared(t *testing.T) {
	d, l := logOf(t, room)
	texts := []string{"a", "b"}
	want(t, "Append", l.Append(texts...), api.OK)
	if !slices.Equal(texts, []string{"a", "b"}) {
		t.Error(texts)
	}
	texts[0] = "x"
	_, told, e := wal.Open(d, "w")
	want(t, "Open", e, api.OK)
	for i := range told {
		told[i] = "y"
	}
	_ = append(told, "z")
	open(t, d, "a", "b")
	want(t, "Reset", l.Reset(texts...), api.OK)
	texts[1] = "x"
	open(t, d, "x", "b")
}
