package tsdb

import (
	"slices"
	"strconv"
	"strings"

	"gauge/api"
	"gauge/frame"
)

// The files of a store, and those that lie about where the power cut it off.
const (
	manifestName = "manifest"
	draftName    = "manifest.new" // a manifest, till it is whole and sure
	mendName     = "tmp"          // in which a log is laid down anew
	blockFront   = "block-"
	logFront     = "wal-"
)

// A manifest says which files are a store's.
type manifest struct {
	next   int   // the number of the next file
	log    int   // the log's number
	blocks []int // the blocks' numbers, in order
}

// blockName tells the file of the block of a number.
func blockName(n int) string {
	return blockFront + strconv.Itoa(n)
}

// logName tells the file of the log of a number.
func logName(n int) string {
	return logFront + strconv.Itoa(n)
}

// bytes tells a manifest's frame. Its error is one of numbers that go too far.
func (m manifest) bytes() ([]byte, api.Errno) {
	var b []byte
	for _, n := range slices.Concat([]int{m.next, m.log, len(m.blocks)}, m.blocks) {
		var e api.Errno
		if b, e = frame.PutUint(b, n); e != api.OK {
			return nil, e
		}
	}
	return frame.Put(nil, b)
}

// manifestOf tells the manifest of a file's bytes, if it is just one.
func manifestOf(b []byte) (manifest, bool) {
	x, end, e := frame.Get(b, 0)
	if e != api.OK || end != len(b) {
		return manifest{}, false
	}
	numbers := numbersOf(x)
	if len(numbers) < 3 {
		return manifest{}, false
	}
	m := manifest{next: numbers[0], log: numbers[1], blocks: numbers[3:]}
	// One that is named twice is one block: there are fewer than it says.
	if numbers[2] != len(m.blocks) || !distinct(m.blocks) {
		return manifest{}, false
	}
	// A change takes what stands under the next number for a file that lies
	// about: it must not be one that is named.
	for _, n := range append([]int{m.log}, m.blocks...) {
		m.next = max(m.next, n+1)
	}
	return m, true
}

// numbersOf tells the numbers of bytes; none, if they are not just numbers.
func numbersOf(b []byte) []int {
	var l []int
	for at := 0; at < len(b); {
		n, next, e := frame.GetUint(b, at)
		if e != api.OK {
			return nil
		}
		l = append(l, n)
		at = next
	}
	return l
}

// distinct tells whether no number stands twice.
func distinct(l []int) bool {
	return len(slices.Compact(slices.Sorted(slices.Values(l)))) == len(l)
}

// leaves tells whether a file is one that a store makes, but not one of those
// that are named.
func (m manifest) leaves(name string) bool {
	switch {
	case name == draftName || name == mendName:
		return true
	case strings.HasPrefix(name, blockFront):
		return !slices.ContainsFunc(m.blocks, func(n int) bool { return blockName(n) == name })
	case strings.HasPrefix(name, logFront):
		return name != logName(m.log)
	}
	return false
}
