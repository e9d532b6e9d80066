package tsdb_test

import (
	"encoding/binary"
	"fmt"
	"hash/crc32"
	"slices"
	"strings"
	"testing"

	"gauge/api"
	"gauge/disk"
	"gauge/label"
	"gauge/tsdb"
)

// every asks a crash for all of up to 40 things: modulo one more than any such
// number it is that number.
const every = 5342931457063200 - 1

// sumOf tells the sum of bytes as it is laid down.
func sumOf(b []byte) []byte {
	return binary.LittleEndian.AppendUint32(nil, crc32.Checksum(b, crc32.MakeTable(crc32.Castagnoli)))
}

// after tells the files that a call leaves, if the power goes after n changes
// and all that it did is kept: their names, how many of their bytes are sure,
// and how many there are. And what the call told.
func after(t *testing.T, d *disk.Disk, c call, n int) (string, api.Errno) {
	t.Helper()
	d = d.Copy()
	x := opened(t, d)
	d.Fuse(n)
	e := c.do(x)
	sure, all := d.Copy(), d
	sure.Crash(every, nil)
	all.Crash(every, slices.Repeat([]int{every}, 64))
	var l []string
	for _, name := range all.List() {
		a, _ := sure.Read(name)
		b, _ := all.Read(name)
		l = append(l, fmt.Sprint(name, " ", len(a), "/", len(b)))
	}
	return strings.Join(l, " "), e
}

// A change of files is done step by step, in the chapter's order: behind each
// step stand just these files.
func TestSteps(t *testing.T) {
	ahead := calls(appending(pt("x", 1, 1)), flushing(), appending(pt("y", 2, 2)), flushing(), appending(pt("x", 3, 3)))
	for _, c := range []struct {
		call  call
		sure  int // behind so many changes the call tells OK
		steps []string
	}{
		{flushing(), 10, []string{
			"block-1 24/24 block-3 24/24 manifest 11/11 wal-4 23/23",
			"block-1 24/24 block-3 24/24 block-5 0/0 manifest 11/11 wal-4 23/23",
			"block-1 24/24 block-3 24/24 block-5 0/24 manifest 11/11 wal-4 23/23",
			"block-1 24/24 block-3 24/24 block-5 24/24 manifest 11/11 wal-4 23/23",
			"block-1 24/24 block-3 24/24 block-5 24/24 manifest 11/11 wal-4 23/23 wal-6 0/0",
			"block-1 24/24 block-3 24/24 block-5 24/24 manifest 11/11 wal-4 23/23 wal-6 0/0",
			"block-1 24/24 block-3 24/24 block-5 24/24 manifest 11/11 manifest.new 0/0 wal-4 23/23 wal-6 0/0",
			"block-1 24/24 block-3 24/24 block-5 24/24 manifest 11/11 manifest.new 0/12 wal-4 23/23 wal-6 0/0",
			"block-1 24/24 block-3 24/24 block-5 24/24 manifest 11/11 manifest.new 12/12 wal-4 23/23 wal-6 0/0",
			"block-1 24/24 block-3 24/24 block-5 24/24 manifest 12/12 wal-4 23/23 wal-6 0/0",
			"block-1 24/24 block-3 24/24 block-5 24/24 manifest 12/12 wal-4 23/23 wal-6 0/0",
			"block-1 24/24 block-3 24/24 block-5 24/24 manifest 12/12 wal-6 0/0",
		}},
		{compacting(), 8, []string{
			"block-1 24/24 block-3 24/24 manifest 11/11 wal-4 23/23",
			"block-1 24/24 block-3 24/24 block-5 0/0 manifest 11/11 wal-4 23/23",
			"block-1 24/24 block-3 24/24 block-5 0/35 manifest 11/11 wal-4 23/23",
			"block-1 24/24 block-3 24/24 block-5 35/35 manifest 11/11 wal-4 23/23",
			"block-1 24/24 block-3 24/24 block-5 35/35 manifest 11/11 manifest.new 0/0 wal-4 23/23",
			"block-1 24/24 block-3 24/24 block-5 35/35 manifest 11/11 manifest.new 0/10 wal-4 23/23",
			"block-1 24/24 block-3 24/24 block-5 35/35 manifest 11/11 manifest.new 10/10 wal-4 23/23",
			"block-1 24/24 block-3 24/24 block-5 35/35 manifest 10/10 wal-4 23/23",
			"block-1 24/24 block-3 24/24 block-5 35/35 manifest 10/10 wal-4 23/23",
			"block-3 24/24 block-5 35/35 manifest 10/10 wal-4 23/23",
			"block-5 35/35 manifest 10/10 wal-4 23/23",
		}},
		{deleting(is("x"), 1, 3), 7, []string{
			"block-1 24/24 block-3 24/24 manifest 11/11 wal-4 23/23",
			"block-1 24/24 block-3 24/24 manifest 11/11 wal-4 23/23 wal-5 0/0",
			"block-1 24/24 block-3 24/24 manifest 11/11 wal-4 23/23 wal-5 0/0",
			"block-1 24/24 block-3 24/24 manifest 11/11 manifest.new 0/0 wal-4 23/23 wal-5 0/0",
			"block-1 24/24 block-3 24/24 manifest 11/11 manifest.new 0/10 wal-4 23/23 wal-5 0/0",
			"block-1 24/24 block-3 24/24 manifest 11/11 manifest.new 10/10 wal-4 23/23 wal-5 0/0",
			"block-1 24/24 block-3 24/24 manifest 10/10 wal-4 23/23 wal-5 0/0",
			"block-1 24/24 block-3 24/24 manifest 10/10 wal-4 23/23 wal-5 0/0",
			"block-3 24/24 manifest 10/10 wal-4 23/23 wal-5 0/0",
			"block-3 24/24 manifest 10/10 wal-5 0/0",
		}},
		{appending(pt("x", 4, 4), pt("z", 5, 5)), 3, []string{
			"block-1 24/24 block-3 24/24 manifest 11/11 wal-4 23/23",
			"block-1 24/24 block-3 24/24 manifest 11/11 wal-4 23/35",
			"block-1 24/24 block-3 24/24 manifest 11/11 wal-4 23/49",
			"block-1 24/24 block-3 24/24 manifest 11/11 wal-4 49/49",
		}},
		{deleting(is("x"), 2, 4), 2, []string{
			"block-1 24/24 block-3 24/24 manifest 11/11 wal-4 23/23",
			"block-1 24/24 block-3 24/24 manifest 11/11 wal-4 23/34",
			"block-1 24/24 block-3 24/24 manifest 11/11 wal-4 34/34",
		}},
	} {
		d, _, _ := done(t, ahead)
		for n, want := range c.steps {
			files, e := after(t, d, c.call, n)
			if files != want {
				t.Errorf("%s, %d:\n%s, not\n%s", c.call.name, n, files, want)
			}
			if n < c.sure && e != api.ErrPower || n >= c.sure && e != api.OK {
				t.Errorf("%s, %d: %d", c.call.name, n, e)
			}
		}
		if files, _ := after(t, d, c.call, len(c.steps)); files != c.steps[len(c.steps)-1] {
			t.Errorf("%s goes on: %s", c.call.name, files)
		}
	}
}

// crashes are ways in which the power may leave a disk.
func crashes() [][2]int {
	return [][2]int{{0, 0}, {1, 1}, {2, 5}, {3, 0}, {3, 11}, {4, 2}, {5, 40}, {6, 9}, {7, 17}, {8, 3}, {-1, -1}, {every, 0}, {every, every}, {0, every}}
}

// cutOff holds a call against each moment at which the power may go, and each way
// in which the disk may be left: what is told behind it is what was told ahead,
// or what the call makes of it.
func cutOff(t *testing.T, d *disk.Disk, m model, c call) {
	t.Helper()
	want, answer := c.model(m)
	for fuse := 0; ; fuse++ {
		y := d.Copy()
		x := opened(t, y)
		changes := y.Done()
		y.Fuse(fuse)
		e := c.do(x)
		if e != answer && e != api.ErrPower {
			t.Fatalf("%s, %d: %d, not %d", c.name, fuse, e, answer)
		}
		now := want
		if e != answer {
			now = m
		}
		if s := now.differs(x); s != "" {
			t.Fatalf("%s, %d: ahead of the crash: %s", c.name, fuse, s)
		}
		for _, way := range crashes() {
			z := y.Copy()
			z.Crash(way[0], slices.Repeat([]int{way[1]}, 64))
			behind := opened(t, z)
			s := want.differs(behind)
			if s != "" && e != answer {
				s = m.differs(behind)
			}
			if s != "" {
				t.Fatalf("%s, %d, crash %d: %s", c.name, fuse, way, s)
			}
			goesOn(t, z, behind)
		}
		if y.Done()-changes < fuse {
			return
		}
	}
}

// goesOn looks whether a store has its files and no others, and takes a further
// point, of a series that is new, which is there when it is opened anew.
func goesOn(t *testing.T, d *disk.Disk, x *tsdb.DB) {
	t.Helper()
	if len(d.List()) != x.Blocks()+2 {
		t.Fatalf("%d blocks, files %q", x.Blocks(), d.List())
	}
	n := x.Count()
	ok(t, x.Append(pts(pt("further", 1, 1), pt("x", end, 1))))
	d.Crash(1, []int{1, 1, 1, 1, 1, 1})
	if c := opened(t, d).Count(); c != n+2 {
		t.Fatalf("%d samples, not %d", c, n+2)
	}
}

// P14.6
func TestPower(t *testing.T) {
	cutOff(t, made(t, large), begun(), call{"nothing", func(x *tsdb.DB) api.Errno { return api.OK }, func(m model) (model, api.Errno) { return m, api.OK }})
	for seed := range 25 {
		next := mixed(seed + 1000)
		d, x, m := done(t, nil)
		for range 14 {
			c := drawn(next)
			cutOff(t, d, m, c)
			c.do(x)
			m, _ = c.model(m)
		}
	}
}

func TestPowerInOpen(t *testing.T) {
	for fuse := range 10 {
		for _, way := range crashes() {
			d := made(t, large)
			d.Fuse(fuse)
			x, e := tsdb.Open(d)
			if fuse < 7 && (x != nil || e != api.ErrPower) || fuse >= 7 && e != api.OK {
				t.Fatalf("%d: %v %d", fuse, x, e)
			}
			d.Crash(way[0], []int{way[1], way[1], way[1]})
			x = opened(t, d)
			begun().hold(t, d, x)
			goesOn(t, d, x)
		}
	}
}

// The power goes where what lies about is to be removed ahead of a change.
func TestPowerAtWhatLiesAbout(t *testing.T) {
	for fuse := range 9 {
		d := made(t, large)
		for _, name := range []string{"wal-0", "manifest.new"} {
			ok(t, d.Create(name), d.Append(name, []byte("lies about")), d.Sync(name), d.SyncDir())
		}
		d.Fuse(fuse)
		if x, e := tsdb.Open(d); x != nil || e != api.ErrPower {
			t.Fatalf("%d: %v %d", fuse, x, e)
		}
		d.Crash(every, nil)
		begun().hold(t, d, opened(t, d))
	}
}

// The power goes again and again, within Open, too, and the store goes on with
// what is there; on some disks the room ends, too.
func TestPowerAgain(t *testing.T) {
	for seed := range 200 {
		next := mixed(seed + 5000)
		room := large
		if seed%2 == 1 {
			room = 150 + next(500)
		}
		d := made(t, room)
		x, m := opened(t, d), begun()
		for i := range 60 {
			c := drawn(next)
			if next(3) == 0 {
				d.Fuse(next(16))
			}
			e := c.do(x)
			want, answer := c.model(m)
			if e != answer && e != api.ErrPower && e != api.ErrFull {
				t.Fatalf("%d, %d, %s: %d, not %d", seed, i, c.name, e, answer)
			}
			if e == answer {
				m = want
			}
			if e != api.ErrPower && next(4) > 0 {
				continue
			}
			crash(d, next)
			if x = again(t, d, next); x == nil {
				break
			}
			s := m.differs(x)
			if s != "" && e == api.ErrPower {
				m = want
				s = m.differs(x)
			}
			if s != "" {
				t.Fatalf("%d, %d, %s: %d, %s", seed, i, c.name, e, s)
			}
			m = m.read(t, d)
		}
	}
}

// crash leaves a disk in a way that looks mixed.
func crash(d *disk.Disk, next func(int) int) {
	var kept []int
	for range 12 {
		kept = append(kept, next(90))
	}
	d.Crash(next(20), kept)
}

// again tells the store that is opened at last, where the power may go within
// Open; none, if a log has not the room that it needs to be mended.
func again(t *testing.T, d *disk.Disk, next func(int) int) *tsdb.DB {
	t.Helper()
	for {
		d.Fuse(next(9) - 2)
		x, e := tsdb.Open(d)
		switch e {
		case api.OK:
			d.Fuse(-1)
			return x
		case api.ErrPower:
			crash(d, next)
		case api.ErrFull:
			return nil
		default:
			t.Fatalf("Open: %d", e)
		}
	}
}

// read tells a model with the numbers that a disk's manifest has, and the series
// without samples that its log has: which of them a crash has left is not said.
func (m model) read(t *testing.T, d *disk.Disk) model {
	t.Helper()
	b, _ := d.Read("manifest")
	numbers := []int{}
	for b = b[2 : len(b)-4]; len(b) > 0; {
		u, n := binary.Uvarint(b)
		numbers = append(numbers, int(u))
		b = b[n:]
	}
	m.next, m.log, m.numbers = numbers[0], numbers[1], numbers[3:]
	h, _ := replayed(t, d, fmt.Sprint("wal-", m.log))
	m.head = contentOf(h.Series())
	for id := range h.Len() {
		l, _ := h.Labels(id)
		if text := label.Print(l); m.head[text] == nil {
			m.head[text] = map[int]int{}
		}
	}
	return m
}

// Where the disk is full a call is refused with its error, what is told stays,
// and no file is left of what it began.
func TestFull(t *testing.T) {
	refused := map[string]int{}
	for seed := range 120 {
		next := mixed(seed + 9000)
		d := made(t, 60+next(500))
		x, m := opened(t, d), begun()
		for i := range 60 {
			c := drawn(next)
			e := c.do(x)
			want, answer := c.model(m)
			switch {
			case e == api.ErrFull:
				refused[strings.Fields(c.name)[0]]++
				m = m.read(t, d) // of series without samples more may be there
			case e != answer:
				t.Fatalf("%d, %d, %s: %d, not %d", seed, i, c.name, e, answer)
			default:
				m = want
			}
			if s := m.differs(x); s != "" {
				t.Fatalf("%d, %d, %s: %d, %s", seed, i, c.name, e, s)
			}
			m.filed(t, d)
			for n := range 3 {
				y := d.Copy()
				if n > 0 {
					y.Crash(n, []int{n, 0, n * 7, n * 9, 3})
				}
				z, f := tsdb.Open(y)
				// A log whose end is cut off needs room to be mended.
				if f == api.ErrFull && n > 0 {
					continue
				}
				if f != api.OK {
					t.Fatalf("%d, %d, %s: Open: %d", seed, i, c.name, f)
				}
				if s := m.differs(z); s != "" {
					t.Fatalf("%d, %d, %s: anew: %s", seed, i, c.name, s)
				}
			}
		}
	}
	if len(refused) < 5 {
		t.Error(refused)
	}
}

// A store has as many files as a disk may have, and no more.
func TestMostFiles(t *testing.T) {
	d, x, m := done(t, nil)
	step := func(c call, want api.Errno) {
		t.Helper()
		told(t, c.name, c.do(x), want)
		if want == api.OK {
			m, _ = c.model(m)
		}
	}
	// A Flush needs two more files than stay: a log, and manifest.new.
	for i := range api.MaxFiles - 4 {
		step(appending(pt("x", i, i)), api.OK)
		step(flushing(), api.OK)
	}
	m.hold(t, d, x)
	step(appending(pt("x", 1000, 1), pt("y", 1, 1)), api.OK)
	for range 2 {
		step(flushing(), api.ErrFull)
		m.hold(t, d, x)
		step(deleting(is("x"), 5, 5), api.ErrFull)
		m.hold(t, d, x)
	}
	step(deleting(is("y"), 1, 1), api.OK)
	step(compacting(), api.OK)
	m.hold(t, d, x)
	step(flushing(), api.OK)
	m.hold(t, d, x)
}

// Of a series whose samples had no room the log has the record, and the head the
// series: it is no further one when it comes again.
func TestFullWithinAppend(t *testing.T) {
	// 9 bytes of the manifest, 23 of the log; a series has 12, one row 11, two 14.
	d := made(t, 9+23+12+11)
	x := opened(t, d)
	ok(t, x.Append(pts(pt("x", 1, 1))))
	m, _ := begun().append(pts(pt("x", 1, 1)))
	for range 2 {
		told(t, "no room", x.Append(pts(pt("y", 2, 2), pt("y", 3, 3))), api.ErrFull)
		if s := m.differs(x); s != "" {
			t.Error(s)
		}
		if s := m.differs(opened(t, d.Copy())); s != "" {
			t.Error(s)
		}
	}
	told(t, "room", x.Append(pts(pt("y", 2, 2))), api.OK)
	m, _ = m.append(pts(pt("y", 2, 2)))
	m.hold(t, d, x)
	told(t, "no room", x.Append(pts(pt("y", 3, 3))), api.ErrFull)
	m.hold(t, d, x)
}
