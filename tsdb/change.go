package tsdb

import (
	"maps"
	"slices"

	"gauge/api"
	"gauge/block"
	"gauge/disk"
	"gauge/head"
	"gauge/wal"
)

// A change is a change of files, on its way.
type change struct {
	disk   *disk.Disk
	to     manifest             // what it makes of the store's
	blocks map[int]*block.Block // the new ones, by their numbers
	log    *wal.Log             // the new one, if there is one
	steps  []step
	made   []string // the files that the steps made
}

// A step is a part of a change.
type step func() api.Errno

// begin tells a change that names no blocks as yet, and the log that there is.
func (x *DB) begin() *change {
	return &change{disk: x.disk, to: manifest{next: x.files.next, log: x.files.log}, blocks: map[int]*block.Block{}}
}

// keep has a block of the store stand behind those that the change names.
func (c *change) keep(n int) {
	c.to.blocks = append(c.to.blocks, n)
}

// add has a new block of series, which may be one, stand behind those that the
// change names.
func (c *change) add(l []api.Series) {
	// There are no errors here: the series may be a block, the bytes are one.
	b, _ := block.Write(l)
	n := c.number()
	c.blocks[n], _ = block.Open(b)
	c.keep(n)
	c.lay(blockName(n), b)
}

// addSome has a new block of series stand behind, if there are some.
func (c *change) addSome(l []api.Series) {
	if len(l) > 0 {
		c.add(l)
	}
}

// renew has a new log take the place of the one that there is. Its number is
// behind those of all new blocks.
func (c *change) renew() {
	c.to.log = c.number()
	name := logName(c.to.log)
	c.claim(name)
	c.steps = append(c.steps, func() (e api.Errno) {
		c.log, _, e = wal.Open(c.disk, name)
		return e
	})
}

// number takes the next number.
func (c *change) number() int {
	n := c.to.next
	c.to.next++
	return n
}

// lay adds the steps that lay down a file.
func (c *change) lay(name string, b []byte) {
	c.claim(name)
	c.steps = append(c.steps,
		func() api.Errno { return c.disk.Create(name) },
		func() api.Errno { return c.disk.Append(name, b) },
		func() api.Errno { return c.disk.Sync(name) },
	)
}

// claim adds the step that removes what lies about under a name. From then on
// what stands there is what the change made.
func (c *change) claim(name string) {
	c.steps = append(c.steps, func() api.Errno {
		if e := c.disk.Remove(name); e != api.OK && e != api.ErrNone {
			return e
		}
		c.made = append(c.made, name)
		return api.OK
	})
}

// finish does a change of files. All that it made is sure ahead of the Rename,
// by which the one manifest takes the other's place at once.
func (x *DB) finish(c *change) api.Errno {
	b, e := c.to.bytes()
	if e != api.OK {
		return e
	}
	c.lay(draftName, b)
	c.steps = append(c.steps,
		func() api.Errno { return c.disk.Rename(draftName, manifestName) },
		c.disk.SyncDir,
	)
	if e := c.run(); e != api.OK {
		return e
	}
	x.become(c)
	return api.OK
}

// run does the steps, one behind the other. Where one of them tells an error,
// what they made is removed.
func (c *change) run() (e api.Errno) {
	defer func() {
		if e != api.OK {
			c.undo()
		}
	}()
	for _, do := range c.steps {
		if e = do(); e != api.OK {
			return e
		}
	}
	return api.OK
}

// undo removes the files that the steps made. What can not be removed lies
// about till the store is opened anew. A Rename is not undone: nothing but the
// power can end the steps behind it, and nothing is removed without it.
func (c *change) undo() {
	for _, name := range c.made {
		c.disk.Remove(name)
	}
}

// become has the store be what a change made of it, which is sure: that files
// that are named no more can not be removed is no error any more.
func (x *DB) become(c *change) {
	old := x.files
	x.files = c.to
	maps.Copy(x.blocks, c.blocks)
	for _, n := range old.blocks {
		if !slices.Contains(c.to.blocks, n) {
			delete(x.blocks, n)
			x.disk.Remove(blockName(n))
		}
	}
	if c.log == nil {
		return
	}
	if x.log != nil {
		x.disk.Remove(logName(old.log))
	}
	x.log = c.log
	x.head = head.New()
}
