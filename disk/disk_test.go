package disk_test

import (
	"bytes"
	"fmt"
	"maps"
	"math"
	"slices"
	"strconv"
	"strings"
	"testing"

	"gauge/api"
	"gauge/disk"
)

// made tells a disk with so much room.
func made(t *testing.T, room int) *disk.Disk {
	t.Helper()
	d, e := disk.New(room)
	if e != api.OK || d == nil {
		t.Fatal(d, e)
	}
	return d
}

// ok looks whether all calls told OK.
func ok(t *testing.T, l ...api.Errno) {
	t.Helper()
	for i, e := range l {
		if e != api.OK {
			t.Errorf("call %d: %d", i, e)
		}
	}
}

// told looks whether a call told what it should.
func told(t *testing.T, what string, e, want api.Errno) {
	t.Helper()
	if e != want {
		t.Errorf("%s: %d, not %d", what, e, want)
	}
}

// holds looks whether a disk has just these files: name, bytes, name, bytes, ..
func holds(t *testing.T, d *disk.Disk, files ...string) {
	t.Helper()
	var names []string
	for i := 0; i < len(files); i += 2 {
		names = append(names, files[i])
		if b, e := d.Read(files[i]); string(b) != files[i+1] || e != api.OK {
			t.Errorf("%s: %q %d, not %q", files[i], b, e, files[i+1])
		}
	}
	if l := d.List(); !slices.Equal(l, names) {
		t.Errorf("%q, not %q", l, names)
	}
}

// laid lays a file with bytes that are sure, and a name that does not wait.
func laid(t *testing.T, d *disk.Disk, name, text string) {
	t.Helper()
	ok(t, d.Create(name), d.Append(name, []byte(text)), d.Sync(name), d.SyncDir())
}

// A change is one of a disk's changes, by a name.
type change struct {
	name string
	do   func(d *disk.Disk) api.Errno
}

// changes are changes that are done on a disk with the files a and b.
func changes() []change {
	return []change{
		{"Create", func(d *disk.Disk) api.Errno { return d.Create("c") }},
		{"Append", func(d *disk.Disk) api.Errno { return d.Append("a", []byte("xyz")) }},
		{"Append of nothing", func(d *disk.Disk) api.Errno { return d.Append("a", nil) }},
		{"Rename", func(d *disk.Disk) api.Errno { return d.Rename("a", "d") }},
		{"Rename to one that is there", func(d *disk.Disk) api.Errno { return d.Rename("a", "b") }},
		{"Rename to itself", func(d *disk.Disk) api.Errno { return d.Rename("a", "a") }},
		{"Remove", func(d *disk.Disk) api.Errno { return d.Remove("a") }},
		{"Sync", func(d *disk.Disk) api.Errno { return d.Sync("a") }},
		{"SyncDir", func(d *disk.Disk) api.Errno { return d.SyncDir() }},
	}
}

// refused are calls that are refused on a disk with 10 bytes of room and the files a, of hello, and b.
func refused() []struct {
	name string
	do   func(d *disk.Disk) api.Errno
	e    api.Errno
} {
	return []struct {
		name string
		do   func(d *disk.Disk) api.Errno
		e    api.Errno
	}{
		{"Create of no name", func(d *disk.Disk) api.Errno { return d.Create("") }, api.ErrName},
		{"Create of a", func(d *disk.Disk) api.Errno { return d.Create("a") }, api.ErrExists},
		{"Append to no name", func(d *disk.Disk) api.Errno { return d.Append("A", nil) }, api.ErrName},
		{"Append to c", func(d *disk.Disk) api.Errno { return d.Append("c", nil) }, api.ErrNone},
		{"Append of too much to c", func(d *disk.Disk) api.Errno { return d.Append("c", make([]byte, 99)) }, api.ErrNone},
		{"Append of too much", func(d *disk.Disk) api.Errno { return d.Append("b", make([]byte, 6)) }, api.ErrFull},
		{"Rename of no name", func(d *disk.Disk) api.Errno { return d.Rename("A", "c") }, api.ErrName},
		{"Rename to no name", func(d *disk.Disk) api.Errno { return d.Rename("a", "A") }, api.ErrName},
		{"Rename of c to no name", func(d *disk.Disk) api.Errno { return d.Rename("c", "A") }, api.ErrName},
		{"Rename of c", func(d *disk.Disk) api.Errno { return d.Rename("c", "a") }, api.ErrNone},
		{"Rename of c to itself", func(d *disk.Disk) api.Errno { return d.Rename("c", "c") }, api.ErrNone},
		{"Remove of no name", func(d *disk.Disk) api.Errno { return d.Remove("a/b") }, api.ErrName},
		{"Remove of c", func(d *disk.Disk) api.Errno { return d.Remove("c") }, api.ErrNone},
		{"Sync of no name", func(d *disk.Disk) api.Errno { return d.Sync("a b") }, api.ErrName},
		{"Sync of c", func(d *disk.Disk) api.Errno { return d.Sync("c") }, api.ErrNone},
	}
}

// two tells a disk with 10 bytes of room and the files a, of hello, of which he is sure, and b, without bytes.
func two(t *testing.T) *disk.Disk {
	t.Helper()
	d := made(t, 10)
	ok(t, d.Create("a"), d.Append("a", []byte("he")), d.Sync("a"), d.Append("a", []byte("llo")), d.Create("b"))
	return d
}

// P4.1

func TestNew(t *testing.T) {
	for _, room := range []int{1, 2, 10, api.MaxRoom - 1, api.MaxRoom} {
		d := made(t, room)
		holds(t, d)
		if d.Done() != 0 {
			t.Error(d.Done())
		}
		// Without a fuse, and with just that much room.
		ok(t, d.Create("a"), d.Append("a", make([]byte, room)))
		told(t, "a byte more", d.Append("a", []byte{1}), api.ErrFull)
		for range 100 {
			ok(t, d.Sync("a"))
		}
	}
	for _, room := range []int{0, -1, -10, api.MaxRoom + 1, 2 * api.MaxRoom, math.MaxInt, math.MinInt} {
		if d, e := disk.New(room); d != nil || e != api.ErrArg {
			t.Error(room, d, e)
		}
	}
}

func TestNoDisk(t *testing.T) {
	var d *disk.Disk
	for _, name := range []string{"a", "", "A"} {
		told(t, "Create", d.Create(name), api.ErrNil)
		told(t, "Append", d.Append(name, []byte("x")), api.ErrNil)
		told(t, "Rename", d.Rename(name, "b"), api.ErrNil)
		told(t, "Rename", d.Rename("b", name), api.ErrNil)
		told(t, "Remove", d.Remove(name), api.ErrNil)
		told(t, "Sync", d.Sync(name), api.ErrNil)
		if b, e := d.Read(name); len(b) != 0 || e != api.ErrNil {
			t.Error(b, e)
		}
	}
	told(t, "SyncDir", d.SyncDir(), api.ErrNil)
	told(t, "Crash", d.Crash(0, nil), api.ErrNil)
	told(t, "Crash", d.Crash(-3, []int{-4}), api.ErrNil)
	for _, n := range []int{-1, 0, 1} {
		d.Fuse(n)
	}
	if len(d.List()) != 0 || d.Done() != 0 || d.Copy() != nil {
		t.Error(d.List(), d.Done(), d.Copy())
	}
}

func names() []string {
	return []string{
		"a", "z", "0", "9", ".", "-", "..", "--", ".a", "-a", "a.", "manifest", "manifest.new", "wal-12", "block-0", "tmp",
		"abcdefghijklmnopqrstuvwx", "yz0123456789.-", strings.Repeat(".", api.MaxFile), strings.Repeat("a", api.MaxFile),
	}
}

func noNames() []string {
	return []string{
		"", "A", "Z", "aA", "Aa", "a b", " a", "a ", "/", "a/b", "_", "a_b", "a,b", "a+b", "a:b", "`", "{", "@", "[", "*",
		"a\x00", "\x00", "a\n", "a\xff", "\xff", "ä", "a\u0301", "ａ", "٣", "\u2010",
		strings.Repeat("a", api.MaxFile+1), strings.Repeat("a", 1000), strings.Repeat("-", api.MaxFile+1),
	}
}

func TestNames(t *testing.T) {
	for _, name := range names() {
		d := made(t, 10)
		ok(t, d.Create(name), d.Append(name, []byte("x")), d.Sync(name))
		holds(t, d, name, "x")
		ok(t, d.Rename(name, "q"), d.Rename("q", name))
		holds(t, d, name, "x")
		ok(t, d.Remove(name))
		holds(t, d)
	}
	for c := range 256 {
		want := api.ErrName
		if strings.IndexByte("abcdefghijklmnopqrstuvwxyz0123456789.-", byte(c)) >= 0 {
			want = api.OK
		}
		for _, name := range []string{string([]byte{byte(c)}), string([]byte{'a', byte(c)}), string([]byte{byte(c), 'a'})} {
			told(t, strconv.Quote(name), made(t, 10).Create(name), want)
		}
	}
}

func TestNoNames(t *testing.T) {
	d := two(t)
	for _, name := range noNames() {
		told(t, "Create", d.Create(name), api.ErrName)
		told(t, "Append", d.Append(name, []byte("x")), api.ErrName)
		told(t, "Append of too much", d.Append(name, make([]byte, 99)), api.ErrName)
		told(t, "Rename", d.Rename(name, "c"), api.ErrName)
		told(t, "Rename", d.Rename("a", name), api.ErrName)
		told(t, "Rename of none", d.Rename("c", name), api.ErrName)
		told(t, "Rename of both", d.Rename(name, name), api.ErrName)
		told(t, "Remove", d.Remove(name), api.ErrName)
		told(t, "Sync", d.Sync(name), api.ErrName)
		if b, e := d.Read(name); len(b) != 0 || e != api.ErrName {
			t.Error(name, b, e)
		}
	}
	if d.Done() != 5 {
		t.Error(d.Done())
	}
	holds(t, d, "a", "hello", "b", "")
	// A name is told ahead of a directory that is full, and of power that is gone.
	for i := range api.MaxFiles - 2 {
		ok(t, d.Create("f"+strconv.Itoa(i)))
	}
	told(t, "full", d.Create("A"), api.ErrName)
	d.Fuse(0)
	told(t, "the power goes", d.SyncDir(), api.ErrPower)
	for _, name := range noNames() {
		told(t, "Create", d.Create(name), api.ErrName)
		if b, e := d.Read(name); len(b) != 0 || e != api.ErrName {
			t.Error(name, b, e)
		}
	}
}

// P4.2

func TestCreate(t *testing.T) {
	d := made(t, 10)
	ok(t, d.Create("b"))
	holds(t, d, "b", "")
	ok(t, d.Append("b", []byte("x")))
	told(t, "there already", d.Create("b"), api.ErrExists)
	holds(t, d, "b", "x")
	ok(t, d.Create("a"), d.Create("-"), d.Create("a.b"), d.Create("9"))
	holds(t, d, "-", "", "9", "", "a", "", "a.b", "", "b", "x")
	// A file that was removed, or went under another name, is not there: the new one is empty.
	ok(t, d.Remove("b"), d.Create("b"))
	holds(t, d, "-", "", "9", "", "a", "", "a.b", "", "b", "")
	ok(t, d.Append("b", []byte("y")), d.Rename("b", "c"), d.Create("b"))
	holds(t, d, "-", "", "9", "", "a", "", "a.b", "", "b", "", "c", "y")
}

func TestCreateFull(t *testing.T) {
	d := made(t, 10)
	for i := range api.MaxFiles {
		ok(t, d.Create("f"+strconv.Itoa(i)))
	}
	told(t, "one more", d.Create("g"), api.ErrFull)
	told(t, "one that is there", d.Create("f0"), api.ErrExists)
	if len(d.List()) != api.MaxFiles || d.Done() != api.MaxFiles {
		t.Error(d.List(), d.Done())
	}
	// What counts is the directory as it is, whether its entries wait or not.
	ok(t, d.SyncDir(), d.Remove("f7"), d.Create("g"))
	told(t, "one more", d.Create("h"), api.ErrFull)
	ok(t, d.Rename("f1", "f2"), d.Create("h"))
	told(t, "one more", d.Create("i"), api.ErrFull)
	ok(t, d.Rename("f3", "i"))
	told(t, "one more", d.Create("j"), api.ErrFull)
	// Full is told ahead of power that is gone.
	d.Fuse(0)
	told(t, "full", d.Create("j"), api.ErrFull)
	told(t, "the power goes", d.SyncDir(), api.ErrPower)
	told(t, "full", d.Create("j"), api.ErrFull)
	told(t, "there", d.Create("g"), api.ErrExists)
}

func TestAppend(t *testing.T) {
	d := made(t, 10)
	ok(t, d.Create("a"), d.Create("b"), d.Append("a", []byte("he")), d.Append("b", []byte("B")), d.Append("a", []byte("llo")), d.Append("a", nil))
	holds(t, d, "a", "hello", "b", "B")
	told(t, "no such file", d.Append("c", []byte("x")), api.ErrNone)
	told(t, "no such file", d.Append("c", nil), api.ErrNone)
	// All files of the directory have the room together.
	told(t, "5 bytes more", d.Append("a", []byte("12345")), api.ErrFull)
	told(t, "5 bytes more", d.Append("b", []byte("12345")), api.ErrFull)
	holds(t, d, "a", "hello", "b", "B")
	ok(t, d.Append("b", []byte("1234")), d.Append("b", nil), d.Append("a", nil))
	told(t, "full", d.Append("a", []byte("x")), api.ErrFull)
	// Files that were removed, or made way for others, have none of it.
	ok(t, d.Remove("b"), d.Append("a", []byte("12345")))
	told(t, "full", d.Append("a", []byte("x")), api.ErrFull)
	ok(t, d.Create("b"), d.Rename("b", "a"), d.Append("a", []byte("1234567890")))
	told(t, "full", d.Append("a", []byte("x")), api.ErrFull)
	holds(t, d, "a", "1234567890")
}

// What a crash brings back may be more than the room: then nothing can be appended, not even no bytes.
func TestAppendBeyondRoom(t *testing.T) {
	d := made(t, 10)
	laid(t, d, "a", "123456")
	laid(t, d, "b", "")
	ok(t, d.Remove("a"), d.Append("b", []byte("1234567890")), d.Sync("b"), d.Crash(0, nil))
	holds(t, d, "a", "123456", "b", "1234567890")
	told(t, "no bytes", d.Append("a", nil), api.ErrFull)
	told(t, "a byte", d.Append("b", []byte("x")), api.ErrFull)
	ok(t, d.Remove("b"), d.Append("a", []byte("7890")))
	holds(t, d, "a", "1234567890")
}

func TestAppendKeepsNothing(t *testing.T) {
	d := made(t, 100)
	ok(t, d.Create("a"))
	all := []byte("hello, you")
	b := all[:5]
	ok(t, d.Append("a", b))
	ok(t, d.Append("a", []byte("!!")))
	if string(all) != "hello, you" {
		t.Errorf("%q", all)
	}
	copy(all, "HELLO, YOU")
	holds(t, d, "a", "hello!!")
	ok(t, d.Append("a", b[:2]))
	b[0] = 'j'
	holds(t, d, "a", "hello!!HE")
}

func TestRename(t *testing.T) {
	d := made(t, 10)
	ok(t, d.Create("a"), d.Append("a", []byte("A")), d.Create("b"), d.Append("b", []byte("B")))
	ok(t, d.Rename("a", "c"))
	holds(t, d, "b", "B", "c", "A")
	ok(t, d.Rename("c", "b"))
	holds(t, d, "b", "A")
	told(t, "from is not there", d.Rename("a", "b"), api.ErrNone)
	told(t, "from is not there", d.Rename("a", "x"), api.ErrNone)
	told(t, "from is not there", d.Rename("c", "c"), api.ErrNone)
	holds(t, d, "b", "A")
	done := d.Done()
	ok(t, d.Rename("b", "b"))
	holds(t, d, "b", "A")
	if d.Done() != done+1 {
		t.Error(d.Done(), done)
	}
	// The file goes on under its new name.
	ok(t, d.Append("b", []byte("x")), d.Rename("b", "a"), d.Append("a", []byte("y")), d.Create("b"), d.Append("b", []byte("z")))
	holds(t, d, "a", "Axy", "b", "z")
}

// A Rename to itself is an entry that waits, too: a crash that does one entry does this one.
func TestRenameToItselfWaits(t *testing.T) {
	for dirs, want := range []string{"b", "b", "a b", "b"} {
		d := made(t, 10)
		ok(t, d.Create("b"), d.SyncDir())
		ok(t, d.Rename("b", "b"), d.Create("a"), d.Remove("a"))
		ok(t, d.Crash(dirs, nil))
		if got := strings.Join(d.List(), " "); got != want {
			t.Errorf("%d: %q, not %q", dirs, got, want)
		}
	}
}

func TestRemove(t *testing.T) {
	d := made(t, 10)
	told(t, "not there", d.Remove("a"), api.ErrNone)
	ok(t, d.Create("a"), d.Create("b"), d.Remove("a"))
	holds(t, d, "b", "")
	told(t, "not there", d.Remove("a"), api.ErrNone)
	told(t, "not there", d.Append("a", nil), api.ErrNone)
	ok(t, d.Remove("b"))
	holds(t, d)
}

// P4.3

func TestSync(t *testing.T) {
	d := made(t, 20)
	told(t, "not there", d.Sync("a"), api.ErrNone)
	ok(t, d.Create("a"), d.Create("b"), d.SyncDir())
	ok(t, d.Append("a", []byte("one")), d.Append("b", []byte("two")), d.Sync("a"), d.Append("a", []byte("more")))
	ok(t, d.Crash(0, nil))
	holds(t, d, "a", "one", "b", "")
	// A Sync holds for the file, under whatever name it stands then.
	ok(t, d.Append("a", []byte("+")), d.Sync("a"), d.Rename("a", "c"), d.Append("c", []byte("-")), d.SyncDir())
	ok(t, d.Crash(0, nil))
	holds(t, d, "b", "", "c", "one+")
	ok(t, d.Append("c", []byte("!")), d.Rename("c", "a"), d.Sync("a"), d.Crash(0, nil))
	holds(t, d, "b", "", "c", "one+!")
}

func TestSyncDir(t *testing.T) {
	d := made(t, 20)
	ok(t, d.SyncDir(), d.Create("a"), d.SyncDir(), d.SyncDir(), d.Create("b"))
	ok(t, d.Crash(0, nil))
	holds(t, d, "a", "")
	ok(t, d.Create("b"), d.Rename("a", "c"), d.SyncDir(), d.Remove("b"), d.Remove("c"))
	ok(t, d.Crash(0, nil))
	holds(t, d, "b", "", "c", "")
	// It makes no byte sure.
	ok(t, d.Append("b", []byte("x")), d.SyncDir(), d.Crash(0, nil))
	holds(t, d, "b", "", "c", "")
}

func TestRead(t *testing.T) {
	d := made(t, 20)
	if b, e := d.Read("a"); len(b) != 0 || e != api.ErrNone {
		t.Error(b, e)
	}
	ok(t, d.Create("a"), d.Append("a", []byte("hello")))
	b, e := d.Read("a")
	if string(b) != "hello" || e != api.OK {
		t.Error(b, e)
	}
	b[0] = 'j'
	c, _ := d.Read("a")
	_ = append(c[:2], "XYZ"...)
	holds(t, d, "a", "hello")
	ok(t, d.Append("a", []byte("!")))
	if string(b) != "jello" {
		t.Errorf("%q", b)
	}
	d.Fuse(0)
	holds(t, d, "a", "hello!")
	told(t, "the power goes", d.Sync("a"), api.ErrPower)
	if b, e := d.Read("a"); len(b) != 0 || e != api.ErrPower {
		t.Error(b, e)
	}
	if b, e := d.Read("b"); len(b) != 0 || e != api.ErrNone {
		t.Error(b, e)
	}
}

func TestList(t *testing.T) {
	d := made(t, 20)
	holds(t, d)
	for _, name := range []string{"b", "a", "ab", "a-", "a.", "a0", "-", ".", "0", "10", "9", "z"} {
		ok(t, d.Create(name))
	}
	want := []string{"-", ".", "0", "10", "9", "a", "a-", "a.", "a0", "ab", "b", "z"}
	l := d.List()
	if !slices.Equal(l, want) {
		t.Errorf("%q", l)
	}
	l[0] = "x"
	if l := d.List(); !slices.Equal(l, want) {
		t.Errorf("%q", l)
	}
	d.Fuse(0)
	if l := d.List(); !slices.Equal(l, want) {
		t.Errorf("%q", l)
	}
	told(t, "the power goes", d.SyncDir(), api.ErrPower)
	if l := d.List(); len(l) != 0 {
		t.Errorf("%q", l)
	}
}

func TestDone(t *testing.T) {
	for _, c := range changes() {
		d := two(t)
		if d.Done() != 5 {
			t.Fatal(d.Done())
		}
		ok(t, c.do(d))
		if d.Done() != 6 {
			t.Error(c.name, d.Done())
		}
		// What is no change is not counted, and a crash takes nothing away.
		d.Read("a")
		d.List()
		d.Fuse(0)
		told(t, "the power goes", d.SyncDir(), api.ErrPower)
		d.Copy()
		ok(t, d.Crash(0, nil))
		if d.Done() != 6 {
			t.Error(c.name, d.Done())
		}
	}
	for _, c := range refused() {
		d := two(t)
		told(t, c.name, c.do(d), c.e)
		if d.Done() != 5 {
			t.Error(c.name, d.Done())
		}
	}
}

// P4.4

func TestFuse(t *testing.T) {
	for _, c := range changes() {
		for n := range 3 {
			d := two(t)
			d.Fuse(n)
			for range n {
				ok(t, d.Append("b", []byte("x")))
			}
			holds(t, d, "a", "hello", "b", strings.Repeat("x", n))
			told(t, c.name, c.do(d), api.ErrPower)
			told(t, c.name, c.do(d), api.ErrPower)
			if len(d.List()) != 0 || d.Done() != 5+n {
				t.Error(c.name, n, d.List(), d.Done())
			}
		}
	}
}

// The last one that is told holds, from then on.
func TestFuseAnew(t *testing.T) {
	d := two(t)
	d.Fuse(1)
	d.Fuse(3)
	ok(t, d.Sync("a"), d.Sync("a"))
	d.Fuse(2)
	ok(t, d.Sync("a"), d.Sync("a"))
	d.Fuse(0)
	for _, n := range []int{-1, -2, math.MinInt, math.MaxInt} {
		d.Fuse(n)
		for range 100 {
			ok(t, d.Sync("a"))
		}
	}
	d.Fuse(0)
	told(t, "the power goes", d.Sync("a"), api.ErrPower)
}

// What is refused is no change: the fuse is as long as it was.
func TestFuseRefused(t *testing.T) {
	for _, c := range refused() {
		d := two(t)
		d.Fuse(1)
		told(t, c.name, c.do(d), c.e)
		d.Read("a")
		d.List()
		ok(t, d.Sync("b"))
		// A refusal does not make the power go, and is told ahead of power that is gone.
		told(t, c.name, c.do(d), c.e)
		holds(t, d, "a", "hello", "b", "")
		told(t, "the power goes", d.Sync("b"), api.ErrPower)
		told(t, c.name, c.do(d), c.e)
	}
}

// Gone is gone, till a crash, which takes the fuse away.
func TestPowerGone(t *testing.T) {
	for _, n := range []int{-1, 0, 1, 100, math.MinInt, math.MaxInt} {
		d := two(t)
		d.Fuse(0)
		told(t, "the power goes", d.Sync("a"), api.ErrPower)
		d.Fuse(n)
		told(t, "gone", d.Sync("a"), api.ErrPower)
		if b, e := d.Read("a"); len(b) != 0 || e != api.ErrPower || len(d.List()) != 0 || d.Done() != 5 {
			t.Error(b, e, d.List(), d.Done())
		}
		ok(t, d.Crash(2, []int{1}))
		holds(t, d, "a", "hel", "b", "")
		for range 100 {
			ok(t, d.Sync("a"))
		}
	}
	// A crash takes the fuse of power that is there, too.
	d := two(t)
	d.Fuse(1)
	ok(t, d.Crash(0, nil), d.Create("a"), d.Create("b"), d.SyncDir())
}

func TestCrashExamples(t *testing.T) {
	for _, c := range []struct {
		dir, sync bool
		kept      []int
		want      []string
	}{
		{false, false, nil, nil}, {false, true, nil, nil}, {false, true, []int{5}, nil},
		{true, false, nil, []string{"a", ""}}, {true, true, nil, []string{"a", "hello"}}, {true, false, []int{2}, []string{"a", "he"}},
	} {
		d := made(t, 10)
		ok(t, d.Create("a"), d.Append("a", []byte("hello")))
		if c.sync {
			ok(t, d.Sync("a"))
		}
		if c.dir {
			ok(t, d.SyncDir())
		}
		ok(t, d.Crash(0, c.kept))
		holds(t, d, c.want...)
	}
	d := made(t, 10)
	ok(t, d.Create("a"))
	told(t, "11 bytes", d.Append("a", make([]byte, 11)), api.ErrFull)
	told(t, "A", d.Create("A"), api.ErrName)
	d.Fuse(1)
	ok(t, d.Create("b"))
	told(t, "c", d.Create("c"), api.ErrPower)
	if l := d.List(); len(l) != 0 {
		t.Error(l)
	}
}

// The first entries that wait are done: dirs modulo their number and one.
func TestCrashDirs(t *testing.T) {
	wants := []string{"a b", "a b c", "a b d", "a d", "a", "d", "d", "d e"}
	look := func(dirs int, want string) {
		d := made(t, 10)
		ok(t, d.Create("a"), d.Create("b"), d.SyncDir())
		ok(t, d.Create("c"), d.Rename("c", "d"), d.Remove("b"), d.Rename("d", "a"), d.Rename("a", "d"), d.Rename("d", "d"), d.Create("e"))
		// These are no entries.
		ok(t, d.Sync("d"), d.Append("d", nil))
		ok(t, d.Crash(dirs, nil))
		if l := strings.Join(d.List(), " "); l != want {
			t.Errorf("%d: %q, not %q", dirs, l, want)
		}
		// None waits any more.
		ok(t, d.Crash(1, nil))
		if l := strings.Join(d.List(), " "); l != want {
			t.Errorf("%d once more: %q, not %q", dirs, l, want)
		}
	}
	for dirs := range 40 {
		look(dirs, wants[dirs%8])
	}
	look(math.MaxInt, wants[7])
	look(-1, wants[7])
	look(-8, wants[0])
	look(-9, wants[7])
	look(math.MinInt, wants[0])
	look(math.MinInt+5, wants[5])
}

// A number below 0 is one of 64 bits without a sign: modulo 3 and 7 that is not what is left with a sign.
func TestCrashBelowNought(t *testing.T) {
	for _, n := range []int{-1, -2, -3, -4, math.MinInt, math.MinInt + 1, math.MinInt + 2, math.MaxInt} {
		d := made(t, 10)
		ok(t, d.Create("a"), d.Append("a", []byte("123456")), d.SyncDir(), d.Create("b"), d.Create("c"))
		ok(t, d.Crash(n, []int{n}))
		files := []string{"a", "123456"[:uint64(n)%7], "b", "", "c", ""}
		holds(t, d, files[:2+2*(uint64(n)%3)]...)
	}
}

// The i-th file, by its name rising, has kept[i] modulo the number of its loose bytes and one.
func TestCrashKept(t *testing.T) {
	for _, c := range []struct {
		kept []int
		want []string
	}{
		{nil, []string{"a", "", "b", "12", "c", "xy"}},
		{[]int{0, 0, 0}, []string{"a", "", "b", "12", "c", "xy"}},
		{[]int{1}, []string{"a", "A", "b", "12", "c", "xy"}},
		{[]int{2}, []string{"a", "AB", "b", "12", "c", "xy"}},
		{[]int{3}, []string{"a", "", "b", "12", "c", "xy"}},
		{[]int{5, 1}, []string{"a", "AB", "b", "123", "c", "xy"}},
		{[]int{0, 3}, []string{"a", "", "b", "12345", "c", "xy"}},
		{[]int{0, 4, 7}, []string{"a", "", "b", "12", "c", "xy"}},
		{[]int{1, 2, 1}, []string{"a", "A", "b", "1234", "c", "xy"}},
		{[]int{1, 6, 1, 1, 1, 1}, []string{"a", "A", "b", "1234", "c", "xy"}},
		{[]int{math.MaxInt, -1, math.MinInt}, []string{"a", "A", "b", "12345", "c", "xy"}},
	} {
		d := made(t, 20)
		// Made in another order than their names'.
		ok(t, d.Create("c"), d.Append("c", []byte("xy")), d.Sync("c"))
		ok(t, d.Create("b"), d.Append("b", []byte("12")), d.Sync("b"), d.Append("b", []byte("3")), d.Append("b", []byte("45")))
		ok(t, d.Create("a"), d.Append("a", []byte("AB")), d.SyncDir())
		back := slices.Clone(c.kept)
		ok(t, d.Crash(0, c.kept))
		if !slices.Equal(back, c.kept) {
			t.Error(back, c.kept)
		}
		holds(t, d, c.want...)
		// All is sure now.
		ok(t, d.Crash(0, nil))
		holds(t, d, c.want...)
	}
}

// Files are numbered as they stand in the directory that the crash leaves, not in the one ahead of it.
func TestCrashNumbersWhatIsLeft(t *testing.T) {
	for dirs, want := range [][]string{{"b", "1", "c", "12"}, {"a", "1", "c", "12"}, {"a", "1", "b", "12"}, {"b", "1"}} {
		d := made(t, 20)
		ok(t, d.Create("b"), d.Create("c"), d.Append("b", []byte("123")), d.Append("c", []byte("123")), d.SyncDir())
		ok(t, d.Rename("b", "a"), d.Rename("c", "b"), d.Remove("a"))
		ok(t, d.Crash(dirs, []int{1, 2}))
		holds(t, d, want...)
	}
}

// What was appended behind a crash is loose, where a crash cut off more.
func TestCrashThenAppend(t *testing.T) {
	d := made(t, 20)
	ok(t, d.Create("a"), d.Append("a", []byte("12345")), d.SyncDir(), d.Crash(0, []int{2}), d.Append("a", []byte("abc")))
	holds(t, d, "a", "12abc")
	ok(t, d.Crash(0, []int{1}))
	holds(t, d, "a", "12a")
}

// A file that was removed, or that made way, is back where its entry is not done: with its loose bytes, as far as they are kept.
func TestCrashBringsBack(t *testing.T) {
	for dirs, want := range [][]string{{"a", "hel", "b", "B"}, {"b", "B"}, {"b", "B", "c", ""}, {"b", ""}} {
		d := made(t, 20)
		ok(t, d.Create("a"), d.Append("a", []byte("he")), d.Sync("a"), d.Append("a", []byte("llo")))
		ok(t, d.Create("b"), d.Append("b", []byte("B")), d.Sync("b"), d.SyncDir())
		ok(t, d.Remove("a"), d.Create("c"), d.Rename("c", "b"))
		holds(t, d, "b", "")
		ok(t, d.Crash(dirs, []int{1}))
		holds(t, d, want...)
	}
}

// Many entries that wait: each of the directories that they made may be left.
func TestCrashManyEntries(t *testing.T) {
	for dirs := range 201 {
		d := made(t, 500)
		for i := range 100 {
			ok(t, d.Create("a"), d.Append("a", []byte(strconv.Itoa(i))), d.Remove("a"))
		}
		ok(t, d.Crash(dirs, []int{2}))
		if dirs%2 == 0 {
			holds(t, d)
			continue
		}
		text := strconv.Itoa(dirs / 2)
		holds(t, d, "a", text[:2%(len(text)+1)])
	}
}

func TestCopy(t *testing.T) {
	d := two(t)
	ok(t, d.SyncDir(), d.Rename("a", "c"), d.Append("c", []byte("!")))
	d.Fuse(5)
	x := d.Copy()
	holds(t, x, "b", "", "c", "hello!")
	if x.Done() != d.Done() {
		t.Error(x.Done(), d.Done())
	}
	// What is done to the one is not seen in the other one.
	ok(t, x.Append("c", []byte("xyz")), x.Sync("c"), x.Create("d"), x.Remove("b"))
	holds(t, x, "c", "hello!xyz", "d", "")
	holds(t, d, "b", "", "c", "hello!")
	ok(t, d.Append("c", []byte("????")))
	holds(t, x, "c", "hello!xyz", "d", "")
	// Each has its own fuse, power and count.
	ok(t, x.SyncDir())
	told(t, "the copy's power", x.SyncDir(), api.ErrPower)
	holds(t, d, "b", "", "c", "hello!????")
	ok(t, d.Sync("b"))
	if d.Done() != 10 || x.Done() != 13 {
		t.Error(d.Done(), x.Done())
	}
	// Power that is gone is gone in a copy, and each goes on by itself behind a crash.
	y := x.Copy()
	if len(y.List()) != 0 || y.SyncDir() != api.ErrPower {
		t.Error(y.List())
	}
	ok(t, y.Crash(0, nil))
	if len(x.List()) != 0 {
		t.Error(x.List())
	}
	holds(t, y, "c", "hello!xyz", "d", "")
	ok(t, d.Crash(0, []int{2}))
	holds(t, d, "a", "hell", "b", "")
	holds(t, y, "c", "hello!xyz", "d", "")
	// The room is the same.
	told(t, "2 bytes", y.Append("c", []byte("12")), api.ErrFull)
	ok(t, y.Append("c", []byte("1")))
}

// A file that stands in the directory and in entries that wait is one file in a copy, too.
func TestCopyOfOneFile(t *testing.T) {
	for dirs := range 4 {
		d := made(t, 20)
		ok(t, d.Create("a"), d.Append("a", []byte("1")), d.Sync("a"), d.SyncDir())
		ok(t, d.Rename("a", "b"), d.Rename("b", "c"), d.Rename("c", "d"))
		x := d.Copy()
		ok(t, x.Append("d", []byte("23")), x.Sync("d"), x.Append("d", []byte("45")))
		ok(t, x.Crash(dirs, []int{1}), d.Crash(dirs, []int{1}))
		holds(t, x, string(rune('a'+dirs)), "1234")
		holds(t, d, string(rune('a'+dirs)), "1")
	}
}

// P4.5 to P4.7

func TestWhatLasts(t *testing.T) {
	for dirs := range 12 {
		for kept := range 8 {
			d := made(t, 50)
			laid(t, d, "a", "sure")
			// Other entries wait, other bytes are loose: a is there all the same.
			ok(t, d.Append("a", []byte("loose")), d.Create("b"), d.Append("b", []byte("x")), d.Rename("b", "c"), d.Remove("c"))
			d.Fuse(1)
			ok(t, d.Create("d"))
			told(t, "the power goes", d.Sync("a"), api.ErrPower)
			ok(t, d.Crash(dirs, []int{kept, kept}))
			b, e := d.Read("a")
			if e != api.OK || string(b) != "sureloose"[:4+kept%6] {
				t.Error(dirs, kept, b, e)
			}
		}
	}
}

func TestOneOrTheOther(t *testing.T) {
	for _, synced := range []bool{true, false} {
		seen := map[string]int{}
		for dirs := range 6 {
			for kept := range 12 {
				d := made(t, 50)
				laid(t, d, "manifest", "elder")
				ok(t, d.Create("manifest.new"), d.Append("manifest.new", []byte("younger")))
				if synced {
					ok(t, d.Sync("manifest.new"))
				}
				ok(t, d.Rename("manifest.new", "manifest"), d.Crash(dirs, []int{kept, kept}))
				b, e := d.Read("manifest")
				if e != api.OK {
					t.Error(dirs, kept, e)
				}
				seen[string(b)]++
			}
		}
		if synced && (len(seen) != 2 || seen["elder"] == 0 || seen["younger"] == 0) {
			t.Error(seen)
		}
		// What was not synced ahead of it may be less than whole.
		if !synced && (len(seen) < 3 || seen["elder"] == 0 || seen["you"] == 0) {
			t.Error(seen)
		}
	}
}

// P4.8

// looks tells all that a disk tells of itself, now and behind some crashes.
func looks(d *disk.Disk) string {
	text := fmt.Sprint(d.Done()) + filesOf(d)
	for n := range 6 {
		x := d.Copy()
		x.Crash(n, []int{n, n, n})
		text += ";" + filesOf(x)
	}
	return text
}

func filesOf(d *disk.Disk) string {
	text := ""
	for _, name := range d.List() {
		b, e := d.Read(name)
		text += fmt.Sprintf(" %s %q %d", name, b, e)
	}
	return text
}

func TestRefusedChangesNothing(t *testing.T) {
	for _, c := range refused() {
		d := two(t)
		ahead := looks(d)
		told(t, c.name, c.do(d), c.e)
		if behind := looks(d); behind != ahead {
			t.Errorf("%s: %s, not %s", c.name, behind, ahead)
		}
	}
}

func TestNothingWithoutPower(t *testing.T) {
	for _, c := range changes() {
		ahead := two(t)
		d := two(t)
		d.Fuse(0)
		for range 3 {
			told(t, c.name, c.do(d), api.ErrPower)
		}
		for _, r := range refused() {
			told(t, r.name, r.do(d), r.e)
		}
		if d.Done() != ahead.Done() {
			t.Error(c.name, d.Done())
		}
		for dirs := range 4 {
			for kept := range 5 {
				x, want := d.Copy(), ahead.Copy()
				ok(t, x.Crash(dirs, []int{kept, kept}), want.Crash(dirs, []int{kept, kept}))
				if looks(x) != looks(want) {
					t.Errorf("%s: %s, not %s", c.name, looks(x), looks(want))
				}
			}
		}
	}
}

// All promises at once: a disk against another way to say what it does, which keeps each directory since the last SyncDir whole.

type modelFile struct {
	text string
	sure int
}

type model struct {
	room, fuse, done int
	gone             bool
	files            []modelFile
	dirs             []map[string]int // the last one is the directory
}

func newModel(room int) *model {
	return &model{room: room, fuse: -1, dirs: []map[string]int{{}}}
}

func (m *model) now() map[string]int { return m.dirs[len(m.dirs)-1] }

func (m *model) has(name string) bool {
	_, there := m.now()[name]
	return there
}

func rightName(s string) bool {
	return len(s) >= 1 && len(s) <= 24 && strings.Trim(s, "abcdefghijklmnopqrstuvwxyz0123456789.-") == ""
}

// spend tells whether a change is done.
func (m *model) spend() api.Errno {
	if m.gone || m.fuse == 0 {
		m.gone = true
		return api.ErrPower
	}
	m.fuse--
	m.done++
	return api.OK
}

// enter does a change of the directory.
func (m *model) enter(change func(dir map[string]int)) api.Errno {
	if e := m.spend(); e != api.OK {
		return e
	}
	dir := maps.Clone(m.now())
	change(dir)
	m.dirs = append(m.dirs, dir)
	return api.OK
}

func (m *model) create(name string) api.Errno {
	switch {
	case !rightName(name):
		return api.ErrName
	case m.has(name):
		return api.ErrExists
	case len(m.now()) == 64:
		return api.ErrFull
	}
	return m.enter(func(dir map[string]int) {
		dir[name] = len(m.files)
		m.files = append(m.files, modelFile{})
	})
}

func (m *model) append(name, text string) api.Errno {
	all := len(text)
	for _, i := range m.now() {
		all += len(m.files[i].text)
	}
	switch {
	case !rightName(name):
		return api.ErrName
	case !m.has(name):
		return api.ErrNone
	case all > m.room:
		return api.ErrFull
	}
	e := m.spend()
	if e == api.OK {
		m.files[m.now()[name]].text += text
	}
	return e
}

func (m *model) rename(from, to string) api.Errno {
	switch {
	case !rightName(from) || !rightName(to):
		return api.ErrName
	case !m.has(from):
		return api.ErrNone
	}
	return m.enter(func(dir map[string]int) {
		if from != to {
			dir[to] = dir[from]
			delete(dir, from)
		}
	})
}

func (m *model) remove(name string) api.Errno {
	switch {
	case !rightName(name):
		return api.ErrName
	case !m.has(name):
		return api.ErrNone
	}
	return m.enter(func(dir map[string]int) { delete(dir, name) })
}

func (m *model) sync(name string) api.Errno {
	switch {
	case !rightName(name):
		return api.ErrName
	case !m.has(name):
		return api.ErrNone
	}
	e := m.spend()
	if e == api.OK {
		f := &m.files[m.now()[name]]
		f.sure = len(f.text)
	}
	return e
}

func (m *model) syncDir() api.Errno {
	e := m.spend()
	if e == api.OK {
		m.dirs = []map[string]int{m.now()}
	}
	return e
}

func (m *model) crash(dirs int, kept []int) {
	m.dirs = []map[string]int{m.dirs[uint64(dirs)%uint64(len(m.dirs))]}
	for i, name := range slices.Sorted(maps.Keys(m.now())) {
		f := &m.files[m.now()[name]]
		n := uint64(0)
		if i < len(kept) {
			n = uint64(kept[i]) % uint64(len(f.text)-f.sure+1)
		}
		f.sure += int(n)
		f.text = f.text[:f.sure]
	}
	m.gone, m.fuse = false, -1
}

func (m *model) copy() *model {
	x := *m
	x.files = slices.Clone(m.files)
	x.dirs = slices.Clone(m.dirs)
	return &x
}

// same looks whether a disk tells what its model does.
func (m *model) same(t *testing.T, d *disk.Disk) {
	t.Helper()
	if d.Done() != m.done {
		t.Fatalf("%d done, not %d", d.Done(), m.done)
	}
	list := slices.Sorted(maps.Keys(m.now()))
	if m.gone {
		if l := d.List(); len(l) != 0 {
			t.Fatal(l)
		}
		for _, name := range list {
			if b, e := d.Read(name); len(b) != 0 || e != api.ErrPower {
				t.Fatal(name, b, e)
			}
		}
		return
	}
	if l := d.List(); !slices.Equal(l, list) {
		t.Fatalf("%q, not %q", l, list)
	}
	for _, name := range list {
		if b, e := d.Read(name); string(b) != m.files[m.now()[name]].text || e != api.OK {
			t.Fatalf("%s: %q %d, not %q", name, b, e, m.files[m.now()[name]].text)
		}
	}
}

// sequence tells numbers that look mixed, and are the same each time.
func sequence(u uint64) func(n int) int {
	return func(n int) int {
		u ^= u << 13
		u ^= u >> 7
		u ^= u << 17
		return int((u >> 20) % uint64(n))
	}
}

type pair struct {
	d *disk.Disk
	m *model
}

// step does one call, mixed from next, on both of a pair.
func (p pair) step(t *testing.T, next func(n int) int) {
	t.Helper()
	words := []string{"a", "b", "c", "d", "e", "a", "b", "c", "d", "e", "A", ""}
	from, to := words[next(len(words))], words[next(len(words))]
	text := strings.Repeat(string(rune('a'+next(26))), next(7))
	var got, want api.Errno
	switch next(14) {
	case 0, 1:
		got, want = p.d.Create(from), p.m.create(from)
	case 2, 3, 4, 5:
		got, want = p.d.Append(from, []byte(text)), p.m.append(from, text)
	case 6, 7:
		got, want = p.d.Rename(from, to), p.m.rename(from, to)
	case 8:
		got, want = p.d.Remove(from), p.m.remove(from)
	case 9, 10:
		got, want = p.d.Sync(from), p.m.sync(from)
	case 11:
		got, want = p.d.SyncDir(), p.m.syncDir()
	case 12:
		n := next(12) - 1
		p.d.Fuse(n)
		if !p.m.gone {
			p.m.fuse = n
		}
	case 13:
		dirs, kept := next(20)-5, []int{next(9) - 3, next(9), next(9), next(9)}[:next(5)]
		got = p.d.Crash(dirs, kept)
		p.m.crash(dirs, kept)
	}
	if got != want {
		t.Fatalf("%q %q %q: %d, not %d", from, to, text, got, want)
	}
}

func TestAgainstModel(t *testing.T) {
	for seed := range 300 {
		next := sequence(uint64(seed)*7919 + 88172645463325252)
		room := 1 + next(60)
		d := made(t, room)
		pairs := []pair{{d, newModel(room)}}
		for range 300 {
			i := next(len(pairs))
			pairs[i].step(t, next)
			for _, p := range pairs {
				p.m.same(t, p.d)
			}
			if next(40) == 0 {
				p := pairs[next(len(pairs))]
				pairs = append(pairs[max(0, len(pairs)-3):], pair{p.d.Copy(), p.m.copy()})
			}
		}
	}
}

// P4.6: behind a crash the directory is one that it was since its last SyncDir, and each file a beginning of what it was, not shorter than what was sure.
func TestBeginnings(t *testing.T) {
	for seed := range 200 {
		next := sequence(uint64(seed)*104729 + 1234567)
		p := pair{made(t, 60), newModel(60)}
		for range 60 {
			p.step(t, next)
			dirs, kept := next(1000)-500, []int{next(50), next(50), next(50), next(50), next(50)}
			x := p.d.Copy()
			ok(t, x.Crash(dirs, kept))
			if !slices.ContainsFunc(p.m.dirs, func(dir map[string]int) bool { return p.m.mayBe(x, dir) }) {
				t.Fatal(seed, dirs, kept, x.List())
			}
		}
	}
}

// mayBe tells whether a disk behind a crash may have left that directory.
func (m *model) mayBe(x *disk.Disk, dir map[string]int) bool {
	if !slices.Equal(x.List(), slices.Sorted(maps.Keys(dir))) {
		return false
	}
	for name, i := range dir {
		b, _ := x.Read(name)
		if f := m.files[i]; len(b) < f.sure || !strings.HasPrefix(f.text, string(b)) {
			return false
		}
	}
	return true
}

func TestMuchRoom(t *testing.T) {
	d := made(t, api.MaxRoom)
	piece := bytes.Repeat([]byte("0123456789abcdef"), 1024)
	ok(t, d.Create("a"), d.SyncDir())
	for range api.MaxRoom / len(piece) {
		ok(t, d.Append("a", piece))
	}
	told(t, "full", d.Append("a", []byte("x")), api.ErrFull)
	b, e := d.Read("a")
	if e != api.OK || !bytes.Equal(b, bytes.Repeat(piece, api.MaxRoom/len(piece))) {
		t.Error(len(b), e)
	}
	ok(t, d.Crash(0, []int{api.MaxRoom - 1}))
	if c, e := d.Read("a"); e != api.OK || !bytes.Equal(c, b[:api.MaxRoom-1]) {
		t.Error(len(c), e)
	}
}
