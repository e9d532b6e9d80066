package wal_test

import (
	"bytes"
	"encoding/binary"
	"fmt"
	"hash/crc32"
	"math"
	"slices"
	"strconv"
	"strings"
	"testing"

	"gauge/api"
	"gauge/disk"
	"gauge/label"
	"gauge/posting"
	"gauge/wal"
)

const (
	end   = api.MaxTime  // the last time, and the highest id
	top   = api.MaxVal   // the greatest value
	most  = api.MaxBatch // of a record's rows
	many  = api.MaxText  // of a record's ids
	large = 1 << 18      // the room of a disk that has enough of it
)

var (
	longName = strings.Repeat("n", api.MaxName) // as long as a name may be
	longWord = strings.Repeat("v", api.MaxWord) // as long as a value may be
)

// set tells labels of names and values, one behind the other.
func set(words ...string) []api.Label {
	var l []api.Label
	for i := 0; i < len(words); i += 2 {
		l = append(l, api.Label{Name: words[i], Value: words[i+1]})
	}
	return l
}

// row tells a row.
func row(id, t, v int) api.Row {
	return api.Row{Id: id, Sample: api.Sample{T: t, V: v}}
}

// series, rows and gone tell records of the three kinds.
func series(words ...string) api.Rec {
	return api.Rec{Kind: api.RecSeries, Labels: set(words...)}
}

func rows(l ...api.Row) api.Rec {
	return api.Rec{Kind: api.RecRows, Rows: l}
}

func gone(low, high int, ids ...int) api.Rec {
	return api.Rec{Kind: api.RecDelete, Ids: ids, Low: low, High: high}
}

// run tells n numbers from first on, each so much above the one ahead.
func run(first, step, n int) []int {
	l := make([]int, n)
	for i := range l {
		l[i] = first + i*step
	}
	return l
}

// batch tells n rows that may be.
func batch(n int) []api.Row {
	l := make([]api.Row, n)
	for i := range l {
		l[i] = row(i, end-i, top-i)
	}
	return l
}

// with tells a record with something changed.
func with(r api.Rec, change func(r *api.Rec)) api.Rec {
	change(&r)
	return r
}

// brief tells something in few bytes, however long it is.
func brief(x any) string {
	return fmt.Sprintf("%.200s", fmt.Sprintf("%v", x))
}

// mixed tells numbers that look mixed, and are the same each time.
func mixed(seed int) func(n int) int {
	u := uint64(seed)*7919 + 88172645463325252
	return func(n int) int {
		u ^= u << 13
		u ^= u >> 7
		u ^= u << 17
		return int((u >> 8) % uint64(n))
	}
}

// drawn tells a record that may be.
func drawn(next func(int) int) api.Rec {
	switch next(3) {
	case 0:
		var l []api.Label
		for _, name := range []string{"A", "__name__", "a", "b", longName, "x1"} {
			if next(2) == 0 {
				l = append(l, api.Label{Name: name, Value: []string{"x", "yy", "\x00", "\xff", longWord}[next(5)]})
			}
		}
		return api.Rec{Kind: api.RecSeries, Labels: l}
	case 1:
		l := make([]api.Row, 1+next(most)%(1+next(most)))
		for i := range l {
			l[i] = row(next(1<<next(41)+1), next(1<<next(41)+1), next(1<<next(61)+1)*(1-2*next(2)))
		}
		return rows(l...)
	}
	ids := make([]int, 1+next(20))
	high := 1 << next(41)
	for i := range ids {
		ids[i] = next(high + 1)
	}
	slices.Sort(ids)
	low := next(high + 1)
	return gone(low, low+next(end-low+1), slices.Compact(ids)...)
}

// rights are records that may be, of all kinds and sizes.
func rights() []api.Rec {
	l := []api.Rec{
		series(), {Kind: api.RecSeries, Labels: []api.Label{}, Rows: []api.Row{}, Ids: []int{}}, series("a", "x"), series("a", "x", "b", "y"), series("A", "\x00", "_", "\xff", "a", `"\`), series(longName, longWord),
		series("a", "1", "b", "2", "c", "3", "d", "4", "e", "5", "f", "6", "g", "7", "h", "8"),
		rows(row(0, 0, 0)), rows(row(3, 10, -1)), rows(row(end, end, top)), rows(row(end, end, -top)), rows(row(5, 5, 5), row(5, 5, 5)), rows(row(9, 8, 7), row(1, 2, -3), row(4, 0, 0)), rows(batch(most - 1)...), rows(batch(most)...),
		{Kind: api.RecRows, Rows: batch(2), Labels: []api.Label{}, Ids: []int{}}, rows(slices.Repeat(batch(1), most)...),
		gone(0, 0, 0), gone(5, 9, 1, 3), gone(0, end, 0, end), gone(end, end, end), gone(7, 7, 7), {Kind: api.RecDelete, Ids: []int{2}, Labels: []api.Label{}, Rows: []api.Row{}}, gone(1, end-1, run(0, 1, many)...), gone(0, 127, run(end-many+1, 1, many)...), gone(128, 1<<14, run(1, 1<<30-1, many)...),
	}
	for i := range 60 {
		l = append(l, rows(row(1<<min(i, 40), 1<<min(i, 40)-1, 1<<i), row(0, 1<<min(i, 40), 1-1<<i)), rows(row(1, 1, -1<<i)))
	}
	for i := range 40 {
		l = append(l, gone(1<<i-1, 1<<i, 1<<i), gone(1<<i, 1<<i, 0, 1<<i))
	}
	next := mixed(1)
	for range 200 {
		l = append(l, drawn(next))
	}
	return l
}

// some are a few records that may be, all of different bytes.
func some() []api.Rec {
	return []api.Rec{series("a", "x"), rows(row(0, 10, 5), row(0, 11, -5)), series("b", "y", "c", "z"), gone(0, 10, 0), rows(row(1, 1, 1)), gone(5, end, 0, 1), series()}
}

// A wrong is a record that may not be, and why.
type wrong struct {
	r api.Rec
	e api.Errno
}

// strays are what a record of none of the three kinds, or of another one, has.
func strays() []struct {
	name string
	add  func(r *api.Rec)
} {
	return []struct {
		name string
		add  func(r *api.Rec)
	}{
		{"Labels", func(r *api.Rec) { r.Labels = set("a", "x") }}, {"Labels that are not right", func(r *api.Rec) { r.Labels = set("", "") }},
		{"Rows", func(r *api.Rec) { r.Rows = batch(1) }}, {"Rows of noughts", func(r *api.Rec) { r.Rows = make([]api.Row, 1) }}, {"too many Rows", func(r *api.Rec) { r.Rows = batch(most + 1) }},
		{"Ids", func(r *api.Rec) { r.Ids = []int{1} }}, {"an Id 0", func(r *api.Rec) { r.Ids = []int{0} }}, {"Ids that fall", func(r *api.Rec) { r.Ids = []int{3, 1} }},
		{"Low", func(r *api.Rec) { r.Low = 1 }}, {"Low below 0", func(r *api.Rec) { r.Low = -1 }}, {"High", func(r *api.Rec) { r.High = 1 }}, {"High below 0", func(r *api.Rec) { r.High = -1 }}, {"Low and High", func(r *api.Rec) { r.Low, r.High = 5, 9 }}, {"High far out", func(r *api.Rec) { r.High = math.MaxInt }},
	}
}

// wrongs are records that may not be, with the orders of errors among them.
func wrongs() []wrong {
	nine := set("a", "1", "b", "2", "c", "3", "d", "4", "e", "5", "f", "6", "g", "7", "h", "8", "i", "9")
	l := []wrong{
		{api.Rec{}, api.ErrArg}, {api.Rec{Kind: 4}, api.ErrArg}, {api.Rec{Kind: -1}, api.ErrArg}, {api.Rec{Kind: math.MinInt}, api.ErrArg}, {api.Rec{Kind: math.MaxInt}, api.ErrArg}, {api.Rec{Kind: 1 << 32}, api.ErrArg}, {api.Rec{Kind: 1<<32 + 1, Labels: set("a", "x")}, api.ErrArg},
		{api.Rec{Kind: 0, Labels: set("a", "x")}, api.ErrArg}, {api.Rec{Kind: 4, Rows: batch(1)}, api.ErrArg}, {api.Rec{Kind: 5, Ids: []int{1}, Low: 1, High: 2}, api.ErrArg},
		// What RecSeries has: label.Check's errors.
		{series("", "x"), api.ErrName}, {series("1", "x"), api.ErrName}, {series("a", ""), api.ErrArg}, {series("a", longWord+"v"), api.ErrBig}, {series(longName+"n", "x"), api.ErrName}, {series("b", "x", "a", "x"), api.ErrOrder}, {series("a", "x", "a", "y"), api.ErrOrder},
		{api.Rec{Kind: api.RecSeries, Labels: nine}, api.ErrBig}, {api.Rec{Kind: api.RecSeries, Labels: append(set("", ""), nine...)}, api.ErrBig}, {series("a", "", "1", "x"), api.ErrArg}, {series("1", "x", "a", ""), api.ErrName},
		// What RecRows has: how many, then row by row its id, then its sample.
		{rows(), api.ErrArg}, {api.Rec{Kind: api.RecRows, Rows: []api.Row{}}, api.ErrArg}, {rows(batch(most + 1)...), api.ErrArg}, {rows(make([]api.Row, 1<<16)...), api.ErrArg}, {rows(slices.Repeat([]api.Row{row(0, -1, 0)}, most+1)...), api.ErrArg},
		{rows(row(-1, 0, 0)), api.ErrArg}, {rows(row(end+1, 0, 0)), api.ErrArg}, {rows(row(math.MinInt, 0, 0)), api.ErrArg}, {rows(row(math.MaxInt, 0, 0)), api.ErrArg},
		{rows(row(0, -1, 0)), api.ErrOver}, {rows(row(0, end+1, 0)), api.ErrOver}, {rows(row(0, 0, top+1)), api.ErrOver}, {rows(row(0, 0, -top-1)), api.ErrOver}, {rows(row(0, math.MinInt, 0)), api.ErrOver}, {rows(row(0, math.MaxInt, 0)), api.ErrOver}, {rows(row(0, 0, math.MinInt)), api.ErrOver}, {rows(row(0, 0, math.MaxInt)), api.ErrOver},
		{rows(row(-1, -1, 0)), api.ErrArg}, {rows(row(end+1, 0, top+1)), api.ErrArg}, {rows(row(0, 0, 0), row(-1, 0, 0)), api.ErrArg}, {rows(row(0, -1, 0), row(-1, 0, 0)), api.ErrOver}, {rows(row(-1, 0, 0), row(0, -1, 0)), api.ErrArg}, {rows(row(1, 1, 1), row(0, 0, top+1), row(-1, 0, 0)), api.ErrOver},
		// What RecDelete has: posting.Check's errors, then whether there are any, then its times.
		{gone(0, 0, -1), api.ErrArg}, {gone(0, 0, end+1), api.ErrArg}, {gone(0, 0, 1, 1), api.ErrOrder}, {gone(0, 0, 3, 1), api.ErrOrder}, {gone(0, 0, run(0, 1, many+1)...), api.ErrBig}, {gone(0, 0, make([]int, many+1)...), api.ErrBig}, {gone(0, 0, 5, 5, -1), api.ErrOrder}, {gone(0, 0, -1, 5, 5), api.ErrArg},
		{gone(-1, end+1, 1, 1), api.ErrOrder}, {gone(9, 5, 1, 1), api.ErrOrder}, {gone(-1, 5, -1), api.ErrArg}, {gone(9, 5, run(0, 1, many+1)...), api.ErrBig}, {gone(-1, 5, run(0, 1, many+1)...), api.ErrBig},
		{gone(0, 0), api.ErrArg}, {gone(5, 9), api.ErrArg}, {gone(-1, 9), api.ErrArg}, {gone(9, 5), api.ErrArg}, {gone(0, end+1), api.ErrArg}, {api.Rec{Kind: api.RecDelete, Ids: []int{}}, api.ErrArg},
		{gone(-1, 0, 1), api.ErrOver}, {gone(-1, -1, 1), api.ErrOver}, {gone(0, end+1, 1), api.ErrOver}, {gone(math.MinInt, 5, 1), api.ErrOver}, {gone(5, math.MaxInt, 1), api.ErrOver}, {gone(math.MinInt, math.MaxInt, 1), api.ErrOver}, {gone(end+1, end+1, 1), api.ErrOver}, {gone(end+2, end+1, 1), api.ErrOver}, {gone(-1, -2, 1), api.ErrOver}, {gone(math.MaxInt, end+1, 1), api.ErrOver},
		{gone(9, 5, 1), api.ErrOrder}, {gone(1, 0, 1), api.ErrOrder}, {gone(end, end-1, 1), api.ErrOrder}, {gone(end+1, end, 1), api.ErrOrder}, {gone(0, -1, 1), api.ErrOrder}, {gone(0, math.MinInt, 1), api.ErrOrder}, {gone(math.MaxInt, 0, 1), api.ErrOrder},
	}
	// What a kind does not have is told ahead of all that it has.
	for _, r := range []api.Rec{{Kind: 0}, {Kind: 4}} {
		for _, s := range strays() {
			l = append(l, wrong{with(r, s.add), api.ErrArg})
		}
	}
	for i, s := range strays() {
		if i > 1 {
			l = append(l, wrong{with(series("a", "x"), s.add), api.ErrArg}, wrong{with(series(), s.add), api.ErrArg}, wrong{with(series("1", "x"), s.add), api.ErrArg}, wrong{with(series("b", "x", "a", longWord+"v"), s.add), api.ErrArg})
		}
		if i < 2 || i > 4 {
			l = append(l, wrong{with(rows(row(1, 1, 1)), s.add), api.ErrArg}, wrong{with(rows(row(1, -1, 1)), s.add), api.ErrArg}, wrong{with(rows(), s.add), api.ErrArg})
		}
		if i < 5 {
			l = append(l, wrong{with(gone(5, 9, 1, 3), s.add), api.ErrArg}, wrong{with(gone(9, 5, 1), s.add), api.ErrArg}, wrong{with(gone(0, 0, 3, 1), s.add), api.ErrArg}, wrong{with(gone(0, end+1, 1), s.add), api.ErrArg})
		}
	}
	return l
}

// judged tells what Check should: the tests' own way.
func judged(r api.Rec) api.Errno {
	hasLabels, hasRows, hasIds, hasTimes := len(r.Labels) > 0, len(r.Rows) > 0, len(r.Ids) > 0, r.Low != 0 || r.High != 0
	switch {
	case r.Kind == 1 && !hasRows && !hasIds && !hasTimes:
		return label.Check(r.Labels)
	case r.Kind == 2 && !hasLabels && !hasIds && !hasTimes:
		if !hasRows || len(r.Rows) > 64 {
			return api.ErrArg
		}
		for _, x := range r.Rows {
			if x.Id < 0 || x.Id > 1<<40 {
				return api.ErrArg
			}
			if x.Sample.T < 0 || x.Sample.T > 1<<40 || x.Sample.V > 1<<60 || x.Sample.V < -1<<60 {
				return api.ErrOver
			}
		}
		return api.OK
	case r.Kind == 3 && !hasLabels && !hasRows:
		if e := posting.Check(r.Ids); e != api.OK {
			return e
		}
		if !hasIds {
			return api.ErrArg
		}
		if r.Low < 0 || r.High > 1<<40 {
			return api.ErrOver
		}
		if r.Low > r.High {
			return api.ErrOrder
		}
		return api.OK
	}
	return api.ErrArg
}

// laid tells a record's bytes, its numbers by a library: the tests' own way.
func laid(r api.Rec) []byte {
	b := []byte{byte(r.Kind)}
	number := func(n int) { b = binary.AppendUvarint(b, uint64(n)) }
	text := func(s string) {
		number(len(s))
		b = append(b, s...)
	}
	switch r.Kind {
	case api.RecSeries:
		number(len(r.Labels))
		for _, l := range r.Labels {
			text(l.Name)
			text(l.Value)
		}
	case api.RecRows:
		number(len(r.Rows))
		for _, x := range r.Rows {
			number(x.Id)
			number(x.Sample.T)
			b = binary.AppendUvarint(b, uint64(x.Sample.V)<<1^uint64(x.Sample.V>>63))
		}
	case api.RecDelete:
		number(len(r.Ids))
		last := 0
		for _, id := range r.Ids {
			number(id - last)
			last = id
		}
		number(r.Low)
		number(r.High)
	}
	return b
}

// guessed tells the record that bytes begin with, as far as a library reads
// them: the tests' own way. What it tells of other bytes is some record.
func guessed(b []byte) api.Rec {
	number := func() int {
		u, n := binary.Uvarint(b)
		b = b[max(n, 0):]
		return int(u)
	}
	text := func() string {
		n := min(uint(number()), uint(len(b)))
		s := string(b[:n])
		b = b[n:]
		return s
	}
	r := api.Rec{Kind: number()}
	switch r.Kind {
	case api.RecSeries:
		for range min(uint(number()), 9) {
			r.Labels = append(r.Labels, api.Label{Name: text(), Value: text()})
		}
	case api.RecRows:
		for range min(uint(number()), 65) {
			x := row(number(), number(), 0)
			u := uint64(number())
			x.Sample.V = int(u>>1) ^ -int(u&1)
			r.Rows = append(r.Rows, x)
		}
	case api.RecDelete:
		last := 0
		for range min(uint(number()), 1025) {
			last += number()
			r.Ids = append(r.Ids, last)
		}
		r.Low, r.High = number(), number()
	}
	return r
}

// isRecord tells whether bytes are a record's, and which one it is: just if
// they are laid down as they are.
func isRecord(b []byte) (api.Rec, bool) {
	r := guessed(b)
	if judged(r) != api.OK || !bytes.Equal(laid(r), b) {
		return api.Rec{}, false
	}
	return r, true
}

// framed tells the frame of bytes, its sum by a library: the tests' own way.
func framed(b []byte) []byte {
	f := append([]byte{byte(len(b) >> 8), byte(len(b))}, b...)
	return binary.LittleEndian.AppendUint32(f, crc32.Checksum(f, crc32.MakeTable(crc32.Castagnoli)))
}

// file tells the bytes of a file of records.
func file(recs ...api.Rec) []byte {
	var b []byte
	for _, r := range recs {
		b = append(b, framed(laid(r))...)
	}
	return b
}

// parted tells the records of a file's whole part, and its length: the tests'
// own way.
func parted(b []byte) ([]api.Rec, int) {
	var recs []api.Rec
	at := 0
	for len(b)-at >= 6 {
		n := int(b[at])*256 + int(b[at+1])
		if len(b)-at < n+6 || !bytes.Equal(framed(b[at+2:at+2+n]), b[at:at+n+6]) {
			break
		}
		r, ok := isRecord(b[at+2 : at+2+n])
		if !ok {
			break
		}
		recs = append(recs, r)
		at += n + 6
	}
	return recs, at
}

// same tells whether two records are: nil and the empty list are.
func same(a, b api.Rec) bool {
	return a.Kind == b.Kind && slices.Equal(a.Labels, b.Labels) && slices.Equal(a.Rows, b.Rows) && slices.Equal(a.Ids, b.Ids) && a.Low == b.Low && a.High == b.High
}

// all tells whether two lists of records are the same.
func all(a, b []api.Rec) bool {
	return slices.EqualFunc(a, b, same)
}

// none tells whether a record has nothing.
func none(r api.Rec) bool {
	return same(r, api.Rec{})
}

// P11.1

func TestCheck(t *testing.T) {
	for _, r := range rights() {
		if e := wal.Check(r); e != api.OK || judged(r) != api.OK {
			t.Errorf("%s: %d, not %d", brief(r), e, judged(r))
		}
	}
	for _, w := range wrongs() {
		if e := wal.Check(w.r); e != w.e || judged(w.r) != w.e {
			t.Errorf("%s: %d, not %d", brief(w.r), e, w.e)
		}
	}
}

// TestCheckAll goes through all records of some labels, rows, ids and times.
func TestCheckAll(t *testing.T) {
	for _, kind := range []int{0, 1, 2, 3, 4} {
		for _, labels := range [][]api.Label{nil, {}, set("a", "x"), set("", "x"), set("a", ""), set("b", "x", "a", "x")} {
			for _, l := range [][]api.Row{nil, {}, batch(1), batch(most), batch(most + 1), {row(-1, 0, 0)}, {row(0, -1, 0)}, {row(1, 2, 3), row(4, 5, top+1)}} {
				for _, ids := range [][]int{nil, {}, {0}, {1, 3}, {3, 1}, {end + 1}, run(0, 1, many+1)} {
					for _, low := range []int{math.MinInt, -1, 0, 5, end, end + 1} {
						for _, high := range []int{-1, 0, 5, end, end + 1, math.MaxInt} {
							r := api.Rec{Kind: kind, Labels: labels, Rows: l, Ids: ids, Low: low, High: high}
							if e := wal.Check(r); e != judged(r) {
								t.Fatalf("%s: %d, not %d", brief(r), e, judged(r))
							}
						}
					}
				}
			}
		}
	}
}

// TestCheckEachRow puts one wrong row to each place of a long record.
func TestCheckEachRow(t *testing.T) {
	for i := range most {
		for _, x := range []api.Row{row(-1, 0, 0), row(end+1, 0, 0), row(0, -1, 0), row(0, end+1, 0), row(0, 0, top+1), row(0, 0, -top-1), row(i, 0, 0)} {
			l := batch(most)
			l[i] = x
			if e := wal.Check(rows(l...)); e != judged(rows(l...)) {
				t.Fatalf("%v at %d: %d, not %d", x, i, e, judged(rows(l...)))
			}
		}
	}
}

// forms are records and their bytes.
func forms() []struct {
	r    api.Rec
	want string
} {
	const last = "\x80\x80\x80\x80\x80\x20" // MaxTime
	return []struct {
		r    api.Rec
		want string
	}{
		{rows(row(3, 10, -1)), "\x02\x01\x03\x0a\x01"}, {gone(5, 9, 1, 3), "\x03\x02\x01\x02\x05\x09"},
		{series(), "\x01\x00"}, {series("a", "x"), "\x01\x01\x01a\x01x"}, {series("a", "x", "bc", "\x00\xff"), "\x01\x02\x01a\x01x\x02bc\x02\x00\xff"}, {series(longName, longWord), "\x01\x01\x20" + longName + "\x40" + longWord},
		{rows(row(0, 0, 0)), "\x02\x01\x00\x00\x00"}, {rows(row(0, 0, 1)), "\x02\x01\x00\x00\x02"}, {rows(row(0, 0, -2)), "\x02\x01\x00\x00\x03"}, {rows(row(0, 0, 63)), "\x02\x01\x00\x00\x7e"}, {rows(row(0, 0, -64)), "\x02\x01\x00\x00\x7f"}, {rows(row(0, 0, 64)), "\x02\x01\x00\x00\x80\x01"},
		{rows(row(300, 128, 0), row(2, 1, 0)), "\x02\x02\xac\x02\x80\x01\x00\x02\x01\x00"}, {rows(row(end, end, top)), "\x02\x01" + last + last + "\x80\x80\x80\x80\x80\x80\x80\x80\x20"}, {rows(row(end, end, -top)), "\x02\x01" + last + last + "\xff\xff\xff\xff\xff\xff\xff\xff\x1f"},
		{rows(make([]api.Row, most)...), "\x02\x40" + strings.Repeat("\x00", 3*most)},
		{gone(0, 0, 0), "\x03\x01\x00\x00\x00"}, {gone(0, end, 0, end), "\x03\x02\x00" + last + "\x00" + last}, {gone(end, end, end), "\x03\x01" + last + last + last}, {gone(127, 128, 5, 6, 306), "\x03\x03\x05\x01\xac\x02\x7f\x80\x01"}, {gone(1, 2, run(0, 1, many)...), "\x03\x80\x08\x00" + strings.Repeat("\x01", many-1) + "\x01\x02"},
	}
}

func TestBytes(t *testing.T) {
	for _, c := range forms() {
		if b, e := wal.Bytes(c.r); string(b) != c.want || e != api.OK {
			t.Errorf("%s: %.40x %d, not %.40x", brief(c.r), b, e, c.want)
		}
	}
	for _, r := range rights() {
		if b, e := wal.Bytes(r); !bytes.Equal(b, laid(r)) || e != api.OK {
			t.Errorf("%s: %.40x %d, not %.40x", brief(r), b, e, laid(r))
		}
	}
}

func TestBytesWrong(t *testing.T) {
	for _, w := range wrongs() {
		if b, e := wal.Bytes(w.r); e != w.e || len(b) != 0 {
			t.Errorf("%s: %.40x %d, not %d", brief(w.r), b, e, w.e)
		}
	}
}

func TestOf(t *testing.T) {
	for _, c := range forms() {
		if r, e := wal.Of([]byte(c.want)); !same(r, c.r) || e != api.OK {
			t.Errorf("%.40x: %s %d, not %s", c.want, brief(r), e, brief(c.r))
		}
	}
}

func TestOfWrong(t *testing.T) {
	const (
		over  = "\x81\x80\x80\x80\x80\x20"             // MaxTime and 1
		high  = "\xff\xff\xff\xff\xff\xff\xff\xff\x7f" // the highest number there is
		more  = "\x82\x80\x80\x80\x80\x80\x80\x80\x20" // 2 (MaxVal + 1)
		below = "\x81\x80\x80\x80\x80\x80\x80\x80\x20" // of -MaxVal - 1
	)
	for _, b := range []string{
		"", "\x00", "\x01", "\x02", "\x03", "\x04", "\x80", "\x00\x00", "\x04\x00", "\x04\x01\x01a\x01x", "\xff", high, "\x81\x00\x01\x01a\x01x", "\x82\x00\x01\x03\x0a\x01",
		// RecSeries: labels that are not right, or are none.
		"\x01\x09", "\x01\x01", "\x01\x01\x01a", "\x01\x01\x01a\x00", "\x01\x01\x00\x01x", "\x01\x01\x011\x01x", "\x01\x02\x01b\x01x\x01a\x01x", "\x01\x02\x01a\x01x\x01a\x01x", "\x01\x00\x00", "\x01\x01\x01a\x01xy", "\x01\x81\x00\x01a\x01x", "\x01\x01\x81\x00a\x01x", "\x01\x01\x01a\x81\x00x",
		"\x01\x01\x01a\x41" + longWord + "v", "\x01\x01\x21" + longName + "n\x01x", "\x01" + high,
		// RecRows: too few, too many, and rows that may not be.
		"\x02\x00", "\x02\x01", "\x02\x01\x03", "\x02\x01\x03\x0a", "\x02\x01\x03\x0a\x01\x00", "\x02\x02\x03\x0a\x01", "\x02\x00\x03\x0a\x01", "\x02\x41" + strings.Repeat("\x00", 3*(most+1)), "\x02" + high, "\x02\x81\x00\x03\x0a\x01",
		"\x02\x01" + over + "\x00\x00", "\x02\x01\x00" + over + "\x00", "\x02\x01\x00\x00" + more, "\x02\x01\x00\x00" + below, "\x02\x01\x00\x00" + high, "\x02\x01" + high + "\x00\x00", "\x02\x01\x00" + high + "\x00", "\x02\x01\x83\x00\x0a\x01", "\x02\x01\x03\x8a\x00\x01", "\x02\x01\x03\x0a\x81\x00", "\x02\x02\x00\x00\x00\x00\x00" + more,
		// RecDelete: ids that are no list, or none, and times that may not be.
		"\x03\x00", "\x03\x00\x05\x09", "\x03\x01\x00", "\x03\x01\x00\x00", "\x03\x02\x01\x02\x05", "\x03\x02\x01\x02\x05\x09\x00", "\x03\x02\x01\x00\x05\x09", "\x03\x01" + over + "\x05\x09", "\x03\x81\x08\x00" + strings.Repeat("\x01", many) + "\x05\x09", "\x03" + high,
		"\x03\x01\x01\x09\x05", "\x03\x01\x01\x01\x00", "\x03\x01\x01\x00" + over, "\x03\x01\x01" + over + over, "\x03\x01\x01\x00" + high, "\x03\x01\x01" + high + high, "\x03\x01\x01" + high + "\x00", "\x03\x01\x01\x85\x00\x09", "\x03\x01\x01\x05\x89\x00", "\x03\x82\x00\x01\x02\x05\x09", "\x03\x02\x81\x00\x02\x05\x09",
	} {
		if r, e := wal.Of([]byte(b)); e != api.ErrCorrupt || !none(r) {
			t.Errorf("%.60x: %s %d", b, brief(r), e)
		}
		if _, ok := isRecord([]byte(b)); ok {
			t.Errorf("%.60x is a record", b)
		}
	}
}

// TestOfCut cuts records off at each place, and lays a byte behind each.
func TestOfCut(t *testing.T) {
	for _, r := range rights() {
		b := laid(r)
		for n := 0; n < len(b); n += 1 + len(b)/300 {
			if x, e := wal.Of(b[:n:n]); e != api.ErrCorrupt || !none(x) {
				t.Fatalf("%d bytes of %s: %s %d", n, brief(r), brief(x), e)
			}
		}
		for _, behind := range []byte{0, 1, 128, 255} {
			if x, e := wal.Of(append(slices.Clone(b), behind)); e != api.ErrCorrupt || !none(x) {
				t.Fatalf("%s and %d: %s %d", brief(r), behind, brief(x), e)
			}
		}
	}
}

// look holds Of of bytes against what it should tell, and tells whether it
// told a record, whose bytes they then are.
func look(t *testing.T, b []byte) bool {
	t.Helper()
	r, e := wal.Of(b)
	want, ok := isRecord(b)
	if !same(r, want) || (e == api.OK) != ok || !ok && e != api.ErrCorrupt {
		t.Fatalf("%.60x: %s %d, not %s", b, brief(r), e, brief(want))
	}
	if !ok {
		return false
	}
	if back, e := wal.Bytes(r); !bytes.Equal(back, b) || e != api.OK {
		t.Fatalf("%.60x, and back: %.60x %d", b, back, e)
	}
	return true
}

// TestOfAllShort goes through all of two bytes, and all of two among some.
func TestOfAllShort(t *testing.T) {
	for u := range 1 << 16 {
		x, y := byte(u>>8), byte(u)
		look(t, []byte{x})
		look(t, []byte{x, y})
		for _, c := range [][2]string{{"\x01", ""}, {"\x01\x01", "\x01x"}, {"\x01\x01\x01a", ""}, {"\x02", "\x00\x00"}, {"\x02\x01", "\x00"}, {"\x02\x01\x05", ""}, {"\x02\x01\x05\x05", ""}, {"\x02\x02\x01\x01\x01\x01", ""}, {"\x03", "\x00\x09"}, {"\x03\x01\x00", ""}, {"\x03\x02\x05", "\x00\x00"}, {"\x03\x01\x00\xff\xff\xff\xff", "\x80\x80\x80\x80\x80\x20"}} {
			look(t, slices.Concat([]byte(c[0]), []byte{x, y}, []byte(c[1])))
		}
	}
}

func TestOfMixed(t *testing.T) {
	next := mixed(2)
	found := 0
	for range 60000 {
		b := make([]byte, 2+next(12))
		for i := range b {
			b[i] = byte(next(256) & next(256) & next(256))
		}
		b[0], b[1] = byte(1+next(3)), byte(next(4))
		if look(t, b) {
			found++
		}
	}
	if found < 1000 {
		t.Errorf("only %d records", found)
	}
}

// TestOfTurned turns one bit, or changes one byte, of records' bytes.
func TestOfTurned(t *testing.T) {
	for _, r := range append(some(), rights()[:30]...) {
		b := laid(r)
		for i := 0; i < len(b); i += 1 + len(b)/100 {
			for bit := range 8 {
				c := slices.Clone(b)
				c[i] ^= 1 << bit
				look(t, c)
			}
		}
	}
}

// P11.2

// made tells a disk with so much room.
func made(t *testing.T, room int) *disk.Disk {
	t.Helper()
	d, e := disk.New(room)
	if e != api.OK {
		t.Fatal(e)
	}
	return d
}

// ok looks whether all calls told OK.
func ok(t *testing.T, l ...api.Errno) {
	t.Helper()
	for i, e := range l {
		if e != api.OK {
			t.Fatalf("call %d: %d", i, e)
		}
	}
}

// lay lays a file with bytes that are sure, under a name that does not wait.
func lay(t *testing.T, d *disk.Disk, name string, b []byte) {
	t.Helper()
	ok(t, d.Create(name), d.Append(name, b), d.Sync(name), d.SyncDir())
}

// holds looks whether a disk has just these files: name, bytes, name, bytes, ..
func holds(t *testing.T, d *disk.Disk, files ...string) {
	t.Helper()
	var names []string
	for i := 0; i < len(files); i += 2 {
		names = append(names, files[i])
		if b, e := d.Read(files[i]); string(b) != files[i+1] || e != api.OK {
			t.Fatalf("%s: %.80x %d, not %.80x", files[i], b, e, files[i+1])
		}
	}
	if l := d.List(); !slices.Equal(l, names) {
		t.Fatalf("%q, not %q", l, names)
	}
}

// opened tells a log that can be opened, and looks whether it has just these
// records.
func opened(t *testing.T, d *disk.Disk, name string, want ...api.Rec) *wal.Log {
	t.Helper()
	l, recs, e := wal.Open(d, name)
	if e != api.OK || l == nil || !all(recs, want) {
		t.Fatalf("%s: %s %d, not %s", name, brief(recs), e, brief(want))
	}
	has(t, l, want...)
	return l
}

// has looks whether a log tells as many records and bytes as these.
func has(t *testing.T, l *wal.Log, recs ...api.Rec) {
	t.Helper()
	if l.Len() != len(recs) || l.Size() != len(file(recs...)) {
		t.Fatalf("%d records of %d bytes, not %d of %d", l.Len(), l.Size(), len(recs), len(file(recs...)))
	}
}

// refused looks whether a log can not be opened, and why.
func refused(t *testing.T, what string, d *disk.Disk, name string, want api.Errno) {
	t.Helper()
	if l, recs, e := wal.Open(d, name); e != want || l != nil || len(recs) != 0 {
		t.Errorf("%s: %v %s %d, not %d", what, l, brief(recs), e, want)
	}
}

// steps does what Open should on a disk: the tests' own way, call by call.
func steps(d *disk.Disk, name string) api.Errno {
	b, e := d.Read(name)
	var calls []func() api.Errno
	if _, n := parted(b); e == api.ErrNone {
		calls = append(calls, func() api.Errno { return d.Create(name) }, func() api.Errno { return d.SyncDir() })
	} else if e != api.OK {
		return e
	} else if n < len(b) {
		if slices.Contains(d.List(), "tmp") {
			calls = append(calls, func() api.Errno { return d.Remove("tmp") })
		}
		calls = append(calls, func() api.Errno { return d.Create("tmp") }, func() api.Errno { return d.Append("tmp", b[:n]) }, func() api.Errno { return d.Sync("tmp") }, func() api.Errno { return d.Rename("tmp", name) }, func() api.Errno { return d.SyncDir() })
	}
	for _, call := range calls {
		if e := call(); e != api.OK {
			return e
		}
	}
	return api.OK
}

// looks tells all that a disk tells of itself, now and behind some crashes.
func looks(d *disk.Disk) string {
	text := fmt.Sprint(d.Done()) + filesOf(d)
	for n := range 8 {
		for _, kept := range []int{0, 3, -1, 20} {
			x := d.Copy()
			x.Crash(n, []int{kept, kept, kept})
			text += ";" + filesOf(x)
		}
	}
	return text
}

func filesOf(d *disk.Disk) string {
	text := ""
	for _, name := range d.List() {
		b, e := d.Read(name)
		text += fmt.Sprintf(" %s %x %d", name, b, e)
	}
	return text
}

// A scene is a disk on which a log is opened.
type scene struct {
	name string
	d    *disk.Disk
}

// scenes are disks on which the log "log" is opened, of all kinds that the
// steps of Open tell apart.
func scenes(t *testing.T) []scene {
	t.Helper()
	recs := some()
	whole := file(recs...)
	cut := whole[:len(whole)-3]
	l := []scene{{"no file", made(t, large)}}
	add := func(name string, make func(d *disk.Disk)) {
		for _, old := range []string{"", "old", string(file(series("t", "t")))} {
			d := made(t, large)
			lay(t, d, "other", []byte("other"))
			if old != "" {
				lay(t, d, "tmp", []byte(old))
			}
			make(d)
			l = append(l, scene{name + " with tmp of " + brief(len(old)), d})
		}
	}
	add("no file but others", func(d *disk.Disk) {})
	add("no bytes", func(d *disk.Disk) { lay(t, d, "log", nil) })
	add("whole", func(d *disk.Disk) { lay(t, d, "log", whole) })
	add("whole and loose", func(d *disk.Disk) { lay(t, d, "log", whole[:20]); ok(t, d.Append("log", whole[20:])) })
	add("whole under a name that waits", func(d *disk.Disk) { ok(t, d.Create("log"), d.Append("log", whole), d.Sync("log")) })
	add("cut off", func(d *disk.Disk) { lay(t, d, "log", cut) })
	add("cut off and loose", func(d *disk.Disk) { lay(t, d, "log", cut[:20]); ok(t, d.Append("log", cut[20:])) })
	add("cut off under a name that waits", func(d *disk.Disk) { ok(t, d.Create("log"), d.Append("log", cut), d.Sync("log")) })
	add("nothing whole", func(d *disk.Disk) { lay(t, d, "log", []byte("x")) })
	add("a byte behind", func(d *disk.Disk) { lay(t, d, "log", append(slices.Clone(whole), 0)) })
	add("a frame that is no record's", func(d *disk.Disk) { lay(t, d, "log", slices.Concat(whole, framed([]byte("no")), whole)) })
	add("tmp that waits", func(d *disk.Disk) {
		lay(t, d, "log", cut)
		d.Remove("tmp")
		ok(t, d.Create("tmp"), d.Append("tmp", []byte("loose")))
	})
	return l
}

func TestOpenSteps(t *testing.T) {
	for _, s := range scenes(t) {
		// As far as the power lets it, and one change farther each time.
		for fuse := -1; fuse < 9; fuse++ {
			d, twin := s.d.Copy(), s.d.Copy()
			d.Fuse(fuse)
			twin.Fuse(fuse)
			b, _ := twin.Read("log")
			want, _ := parted(b)
			fault := steps(twin, "log")
			l, recs, e := wal.Open(d, "log")
			if e != fault || looks(d) != looks(twin) {
				t.Fatalf("%s, fuse %d: %d, not %d: %s, not %s", s.name, fuse, e, fault, looks(d), looks(twin))
			}
			if e != api.OK {
				if l != nil || len(recs) != 0 || e != api.ErrPower {
					t.Fatalf("%s, fuse %d: %v %s %d", s.name, fuse, l, brief(recs), e)
				}
				continue
			}
			if !all(recs, want) {
				t.Fatalf("%s, fuse %d: %s, not %s", s.name, fuse, brief(recs), brief(want))
			}
			has(t, l, want...)
		}
	}
}

// changes tells how many changes a call does on a disk.
func changes(d *disk.Disk, call func()) int {
	n := d.Done()
	call()
	return d.Done() - n
}

func TestOpenNew(t *testing.T) {
	d := made(t, large)
	if n := changes(d, func() { opened(t, d, "log") }); n != 2 {
		t.Errorf("%d changes", n)
	}
	holds(t, d, "log", "")
	// Its name does not wait any more.
	ok(t, d.Crash(0, nil))
	holds(t, d, "log", "")
	if n := changes(d, func() { opened(t, d, "log") }); n != 0 {
		t.Errorf("%d changes", n)
	}
}

func TestOpenWhole(t *testing.T) {
	d := made(t, large)
	lay(t, d, "tmp", []byte("what lies about"))
	lay(t, d, "wal-7", file(some()...))
	// A log that is whole is left as it is, and what lies about, too.
	if n := changes(d, func() { opened(t, d, "wal-7", some()...) }); n != 0 {
		t.Errorf("%d changes", n)
	}
	holds(t, d, "tmp", "what lies about", "wal-7", string(file(some()...)))
}

func TestOpenMends(t *testing.T) {
	recs := some()
	for _, tmp := range []bool{false, true} {
		d := made(t, large)
		if tmp {
			lay(t, d, "tmp", []byte("what lies about"))
		}
		lay(t, d, "log", append(file(recs...), 7))
		want := 5
		if tmp {
			want = 6
		}
		if n := changes(d, func() { opened(t, d, "log", recs...) }); n != want {
			t.Errorf("%d changes, not %d", n, want)
		}
		holds(t, d, "log", string(file(recs...)))
		// It is sure, and so is its name.
		ok(t, d.Crash(0, nil))
		holds(t, d, "log", string(file(recs...)))
		opened(t, d, "log", recs...)
	}
}

// TestOpenCut is the chapter's example, at each place at which the second
// record's frame may be cut off.
func TestOpenCut(t *testing.T) {
	one, two := series("a", "x"), rows(row(0, 10, 5))
	for kept := range len(file(two)) + 1 {
		d := made(t, large)
		l := opened(t, d, "log")
		ok(t, l.Append(one), l.Sync(), l.Append(two))
		ok(t, d.Crash(0, []int{kept}))
		want := []api.Rec{one}
		if kept == len(file(two)) {
			want = append(want, two)
		}
		opened(t, d, "log", want...)
		holds(t, d, "log", string(file(want...)))
	}
}

func TestOpenNil(t *testing.T) {
	for _, name := range []string{"log", "", "tmp", "A", strings.Repeat("a", api.MaxFile+1)} {
		refused(t, name, nil, name, api.ErrNil)
	}
}

func TestOpenNames(t *testing.T) {
	wrong := []string{"", "tmp", "A", "log ", "a/b", "a_b", "l\x00g", "\xff", "ü", "TMP", strings.Repeat("a", api.MaxFile+1), strings.Repeat("a", 1<<16)}
	d := made(t, large)
	lay(t, d, "tmp", file(some()...))
	for _, name := range wrong {
		refused(t, name, d, name, api.ErrName)
	}
	holds(t, d, "tmp", string(file(some()...)))
	for _, name := range []string{"a", "0", "-", ".", "..", "tmp-", "tm", "tmp.", "tmpp", "wal-0", "log.9", strings.Repeat("z", api.MaxFile)} {
		l := opened(t, d, name)
		ok(t, l.Append(some()[0]), l.Sync())
		opened(t, d, name, some()[0])
	}
	// A name is told ahead of power that is gone.
	d.Fuse(0)
	if e := d.SyncDir(); e != api.ErrPower {
		t.Fatal(e)
	}
	for _, name := range wrong {
		refused(t, name, d, name, api.ErrName)
	}
	refused(t, "a file that is there", d, "wal-0", api.ErrPower)
	refused(t, "a file that is not there", d, "wal-1", api.ErrPower)
}

func TestOpenNoRoom(t *testing.T) {
	whole := file(some()...)
	cut := append(slices.Clone(whole), "cut off"...)
	// No file more may be: neither the log itself, nor tmp.
	d := made(t, large)
	for i := range api.MaxFiles {
		ok(t, d.Create("f"+strconv.Itoa(i)))
	}
	ok(t, d.Append("f7", cut), d.Append("f8", whole))
	refused(t, "one file more", d, "log", api.ErrFull)
	refused(t, "one file more", d, "f7", api.ErrFull)
	opened(t, d, "f8", some()...)
	ok(t, d.Rename("f9", "tmp"))
	opened(t, d, "f7", some()...)
	// No byte more may be.
	for spare := range 12 {
		d := made(t, 2*len(whole)+spare)
		lay(t, d, "log", cut)
		e := api.OK
		if spare < len("cut off") {
			e = api.ErrFull
		}
		twin := d.Copy()
		if steps(twin, "log") != e {
			t.Fatal(spare)
		}
		if l, recs, fault := wal.Open(d, "log"); fault != e || (l != nil) != (e == api.OK) || (len(recs) != 0) != (e == api.OK) {
			t.Errorf("%d bytes to spare: %s %d, not %d", spare, brief(recs), fault, e)
		}
		if looks(d) != looks(twin) {
			t.Errorf("%d bytes to spare: %s, not %s", spare, looks(d), looks(twin))
		}
		// The log itself is as it was.
		if b, _ := d.Read("log"); e != api.OK && !bytes.Equal(b, cut) {
			t.Errorf("%d bytes to spare: %x", spare, b)
		}
	}
}

// TestOpenAfterPower cuts Open off at each change, has any part of it last,
// and opens anew.
func TestOpenAfterPower(t *testing.T) {
	for _, s := range scenes(t) {
		for fuse := range 7 {
			cut := s.d.Copy()
			cut.Fuse(fuse)
			if _, _, e := wal.Open(cut, "log"); e != api.ErrPower {
				continue
			}
			for dirs := range 7 {
				for _, kept := range []int{0, 1, 2, 9, 30, 1000} {
					d := cut.Copy()
					ok(t, d.Crash(dirs, []int{kept, kept, kept}))
					b, _ := d.Read("log")
					want, n := parted(b)
					opened(t, d, "log", want...)
					if c, e := d.Read("log"); !bytes.Equal(c, b[:n]) || e != api.OK {
						t.Fatalf("%s, fuse %d: %x %d, not %x", s.name, fuse, c, e, b[:n])
					}
				}
			}
		}
	}
}

// P11.3

func TestAppend(t *testing.T) {
	d := made(t, api.MaxRoom)
	l := opened(t, d, "log")
	var recs []api.Rec
	for _, r := range rights() {
		if n := changes(d, func() { ok(t, l.Append(r)) }); n != 1 {
			t.Fatalf("%d changes", n)
		}
		recs = append(recs, r)
		has(t, l, recs...)
	}
	holds(t, d, "log", string(file(recs...)))
	if n := changes(d, func() { ok(t, l.Sync()) }); n != 1 {
		t.Fatalf("%d changes", n)
	}
	has(t, l, recs...)
	opened(t, d, "log", recs...)
	// A log that was opened goes on behind what was there.
	l = opened(t, d, "log", recs...)
	ok(t, l.Append(recs[0]))
	has(t, l, append(recs, recs[0])...)
	holds(t, d, "log", string(file(append(recs, recs[0])...)))
}

func TestAppendWrong(t *testing.T) {
	d := made(t, large)
	l := opened(t, d, "log")
	ok(t, l.Append(some()[0]))
	// What may not be is told, whether it could be appended or not.
	for _, power := range []bool{true, false} {
		for _, w := range wrongs() {
			n := changes(d, func() {
				if e := l.Append(w.r); e != w.e {
					t.Errorf("%s: %d, not %d", brief(w.r), e, w.e)
				}
			})
			if n != 0 {
				t.Errorf("%s: %d changes", brief(w.r), n)
			}
			has(t, l, some()[0])
		}
		if power {
			d.Fuse(0)
		}
	}
	// A wrong record is no change at which the power would go.
	holds(t, d, "log", string(file(some()[0])))
}

func TestAppendRefused(t *testing.T) {
	recs := some()
	room := len(file(recs[:2]...))
	d := made(t, room)
	l := opened(t, d, "log")
	ok(t, l.Append(recs[0]), l.Append(recs[1]))
	for range 3 {
		if e := l.Append(recs[2]); e != api.ErrFull {
			t.Fatal(e)
		}
		has(t, l, recs[:2]...)
		holds(t, d, "log", string(file(recs[:2]...)))
	}
	ok(t, l.Sync())
	d.Fuse(0)
	for range 3 {
		if e := l.Append(recs[2]); e != api.ErrFull {
			t.Fatal(e)
		}
		if e := l.Sync(); e != api.ErrPower {
			t.Fatal(e)
		}
		has(t, l, recs[:2]...)
	}
	// The power is gone, where there is room.
	d = made(t, large)
	l = opened(t, d, "log")
	ok(t, l.Append(recs[0]))
	d.Fuse(0)
	for range 3 {
		if e := l.Append(recs[1]); e != api.ErrPower {
			t.Fatal(e)
		}
		has(t, l, recs[0])
	}
	// No such file.
	d = made(t, large)
	l = opened(t, d, "log")
	ok(t, l.Append(recs[0]), d.Remove("log"))
	if e := l.Append(recs[1]); e != api.ErrNone {
		t.Fatal(e)
	}
	if e := l.Sync(); e != api.ErrNone {
		t.Fatal(e)
	}
	has(t, l, recs[0])
	holds(t, d)
}

func TestSync(t *testing.T) {
	recs := some()
	d := made(t, large)
	l := opened(t, d, "log")
	other := opened(t, d, "other")
	for i, r := range recs {
		ok(t, l.Append(r), other.Append(r), l.Sync())
		x := d.Copy()
		ok(t, x.Crash(0, nil))
		// The Sync is of the one file alone.
		holds(t, x, "log", string(file(recs[:i+1]...)), "other", "")
	}
	has(t, l, recs...)
	has(t, other, recs...)
}

func TestNoLog(t *testing.T) {
	var l *wal.Log
	for _, r := range []api.Rec{{}, some()[0], {Kind: 9}, gone(9, 5, 1), series("", "")} {
		if e := l.Append(r); e != api.ErrNil {
			t.Errorf("%s: %d", brief(r), e)
		}
	}
	if l.Sync() != api.ErrNil || l.Len() != 0 || l.Size() != 0 {
		t.Error(l.Sync(), l.Len(), l.Size())
	}
}

// TestTwoLogs has two logs of one disk go on side by side.
func TestTwoLogs(t *testing.T) {
	d := made(t, large)
	a, b := opened(t, d, "a"), opened(t, d, "b")
	var as, bs []api.Rec
	next := mixed(3)
	for range 100 {
		r := drawn(next)
		if next(2) == 0 {
			ok(t, a.Append(r))
			as = append(as, r)
		} else {
			ok(t, b.Append(r))
			bs = append(bs, r)
		}
		has(t, a, as...)
		has(t, b, bs...)
	}
	opened(t, d, "a", as...)
	opened(t, d, "b", bs...)
}

// P11.4

func TestThereAndBack(t *testing.T) {
	l := rights()
	next := mixed(4)
	for range 3000 {
		l = append(l, drawn(next))
	}
	for _, r := range l {
		b, e := wal.Bytes(r)
		if e != api.OK {
			t.Fatalf("%s: %d", brief(r), e)
		}
		if back, e := wal.Of(b); !same(back, r) || e != api.OK {
			t.Fatalf("%s: %s %d", brief(r), brief(back), e)
		}
		if !look(t, b) {
			t.Fatalf("%s: %.40x", brief(r), b)
		}
	}
}

// TestBytesApart looks whether no two records have the same bytes.
func TestBytesApart(t *testing.T) {
	seen := map[string]api.Rec{}
	for _, r := range rights() {
		b, _ := wal.Bytes(r)
		if x, there := seen[string(b)]; there && !same(x, r) {
			t.Errorf("%s and %s: %x", brief(x), brief(r), b)
		}
		seen[string(b)] = r
	}
}

// P11.5

// lasts has a log go on through many crashes: behind each Open tells the first
// ones of the records that were there, and at least those that were sure.
func lasts(t *testing.T, seed int) {
	t.Helper()
	next := mixed(seed)
	d := made(t, large)
	l := opened(t, d, "log")
	var recs []api.Rec
	sure := 0
	for range 40 {
		d.Fuse(next(12) - 1)
		for cut := false; !cut && next(12) > 0; {
			r := drawn(next)
			switch e := l.Append(r); e {
			case api.OK:
				recs = append(recs, r)
			case api.ErrPower:
				cut = true
			default:
				t.Fatal(e)
			}
			if next(3) == 0 && l.Sync() == api.OK {
				sure = len(recs)
			}
			has(t, l, recs...)
		}
		ok(t, d.Crash(next(9), []int{next(4000), next(4000)}))
		// The power may go while it is opened, time and again.
		var told []api.Rec
		d.Fuse(next(7) - 1)
		for e := api.ErrPower; e != api.OK; {
			if l, told, e = wal.Open(d, "log"); e == api.ErrPower {
				ok(t, d.Crash(next(9), []int{next(4000), next(4000)}))
				d.Fuse(next(9) - 1)
			} else if e != api.OK {
				t.Fatal(e)
			}
		}
		d.Fuse(-1)
		if len(told) < sure || len(told) > len(recs) || !all(told, recs[:len(told)]) {
			t.Fatalf("seed %d: %d records, of which %d were sure: %d", seed, len(recs), sure, len(told))
		}
		recs, sure = told, len(told)
		has(t, l, recs...)
	}
}

func TestWhatLasts(t *testing.T) {
	for seed := range 100 {
		lasts(t, seed)
	}
}

// TestLastsBehindMend looks whether what Open mended is there behind a crash.
func TestLastsBehindMend(t *testing.T) {
	recs := some()
	for dirs := range 6 {
		for kept := range 5 {
			d := made(t, large)
			lay(t, d, "log", append(file(recs...), 1, 2, 3))
			l := opened(t, d, "log", recs...)
			ok(t, l.Append(recs[0]))
			ok(t, d.Crash(dirs, []int{kept, kept}))
			opened(t, d, "log", recs...)
		}
	}
}

// P11.6

// reads looks whether Open tells the records of the whole part of bytes, and
// whether that is all that stands there then.
func reads(t *testing.T, b []byte) {
	t.Helper()
	want, n := parted(b)
	d := made(t, api.MaxRoom)
	lay(t, d, "log", b)
	opened(t, d, "log", want...)
	holds(t, d, "log", string(b[:n]))
	opened(t, d, "log", want...)
}

func TestWhateverBytes(t *testing.T) {
	whole := file(some()...)
	for n := range len(whole) + 1 {
		reads(t, whole[:n])
	}
	for i := range len(whole) {
		for bit := range 8 {
			b := slices.Clone(whole)
			b[i] ^= 1 << bit
			reads(t, b)
		}
	}
	for _, behind := range [][]byte{{0}, {255}, make([]byte, 6), make([]byte, 7), framed(nil), framed([]byte("x")), framed([]byte{1}), framed([]byte("\x03\x01\x01\x09\x05")), framed(append(laid(some()[1]), 0)), framed(make([]byte, 65535)), bytes.Repeat([]byte{255}, 70000)} {
		reads(t, behind)
		reads(t, append(slices.Clone(whole), behind...))
		// What stands behind is lost, too, as whole as it may be.
		reads(t, slices.Concat(whole, behind, whole))
	}
	reads(t, file(rights()...))
	reads(t, file(slices.Repeat(some(), 1000)...))
}

// TestWhateverMixed lays frames of records, frames of others, and other bytes
// one behind the other.
func TestWhateverMixed(t *testing.T) {
	next := mixed(5)
	for range 2000 {
		var b []byte
		for range 1 + next(6) {
			switch next(8) {
			case 0:
				b = append(b, byte(next(256)))
			case 1:
				x := make([]byte, next(6))
				for i := range x {
					x[i] = byte(next(5))
				}
				b = append(b, framed(x)...)
			case 2:
				x := laid(drawn(next))
				x[next(len(x))] ^= byte(1 << next(8))
				b = append(b, framed(x)...)
			default:
				b = append(b, framed(laid(drawn(next)))...)
			}
		}
		reads(t, b[:len(b)-next(2)*next(3)%(len(b)+1)])
	}
}

// Rules that hold everywhere

// filled tells a record of that kind whose lists have room behind their ends,
// and what looks whether all of it is still as it was.
func filled(r api.Rec) (api.Rec, func() bool) {
	labels := append(slices.Clone(r.Labels), set("behind", "it")...)
	l := append(slices.Clone(r.Rows), row(-7, -8, -9))
	ids := append(slices.Clone(r.Ids), -7)
	r.Labels, r.Rows, r.Ids = labels[:len(r.Labels)], l[:len(r.Rows)], ids[:len(r.Ids)]
	was, row0, id0 := slices.Clone(labels), slices.Clone(l), slices.Clone(ids)
	return r, func() bool { return slices.Equal(labels, was) && slices.Equal(l, row0) && slices.Equal(ids, id0) }
}

// spoil overwrites all that a record's lists have, behind their ends, too.
func spoil(r api.Rec) {
	for i := range r.Labels[:cap(r.Labels)] {
		r.Labels[:cap(r.Labels)][i] = api.Label{Name: "spoilt"}
	}
	for i := range r.Rows[:cap(r.Rows)] {
		r.Rows[:cap(r.Rows)][i] = row(-1, -2, -3)
	}
	for i := range r.Ids[:cap(r.Ids)] {
		r.Ids[:cap(r.Ids)][i] = -4
	}
}

// copied tells a record that shares nothing with another one.
func copied(r api.Rec) api.Rec {
	r.Labels, r.Rows, r.Ids = slices.Clone(r.Labels), slices.Clone(r.Rows), slices.Clone(r.Ids)
	return r
}

func TestNothingIsChanged(t *testing.T) {
	all := rights()
	for _, w := range wrongs() {
		all = append(all, w.r)
	}
	for _, given := range all {
		r, asItWas := filled(given)
		d := made(t, large)
		l := opened(t, d, "log")
		wal.Check(r)
		wal.Bytes(r)
		l.Append(r)
		if !asItWas() {
			t.Fatalf("%s was changed", brief(r))
		}
		b := append(laid(given), "behind"...)
		was := slices.Clone(b)
		wal.Of(b[:len(b)-6])
		if !bytes.Equal(b, was) {
			t.Fatalf("%.40x was changed to %.40x", was, b)
		}
	}
}

func TestNothingIsKept(t *testing.T) {
	recs := rights()
	d := made(t, api.MaxRoom)
	l := opened(t, d, "log")
	for _, r := range recs {
		mine := copied(r)
		ok(t, l.Append(mine))
		b, _ := wal.Bytes(mine)
		spoil(mine)
		if !bytes.Equal(b, laid(r)) {
			t.Fatalf("%s: its bytes hang on it", brief(r))
		}
		// What is read of bytes does not hang on them.
		back, _ := wal.Of(b)
		clear(b)
		if !same(back, r) {
			t.Fatalf("%s hangs on its bytes", brief(r))
		}
	}
	holds(t, d, "log", string(file(recs...)))
	// What Open told is not the log's, nor has it memory twice.
	l, told, _ := wal.Open(d, "log")
	again, _, _ := wal.Open(d, "log")
	for i, r := range told {
		if !same(r, recs[i]) {
			t.Fatalf("record %d: %s, not %s", i, brief(r), brief(recs[i]))
		}
		spoil(r)
	}
	has(t, l, recs...)
	ok(t, l.Append(recs[0]))
	has(t, l, append(recs, recs[0])...)
	has(t, again, recs...)
	opened(t, d, "log", append(recs, recs[0])...)
}

// TestSameEachTime looks whether calls tell the same each time.
func TestSameEachTime(t *testing.T) {
	for _, r := range rights()[:40] {
		a, _ := wal.Bytes(r)
		b, _ := wal.Bytes(r)
		if !bytes.Equal(a, b) {
			t.Fatalf("%s: %.40x and %.40x", brief(r), a, b)
		}
		clear(a)
		if !bytes.Equal(b, laid(r)) {
			t.Fatalf("%s: two answers share memory", brief(r))
		}
		x, _ := wal.Of(b)
		y, _ := wal.Of(b)
		spoil(x)
		if !same(y, r) {
			t.Fatalf("%s: two answers share memory", brief(r))
		}
	}
}
