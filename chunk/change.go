package chunk

import (
	"maps"
	"slices"

	"cistern/api"
)

// written are the bytes that were written, by their blocks. A block that was taken since one mark is free behind going
// back to that, and may be written anew; who then goes back to a later mark finds the bytes here.
type written map[int][api.Chunk]byte

// copied: others that are just like these.
func (w written) copied() written {
	return maps.Clone(w)
}

// bytesIn are bytes of a block.
type bytesIn struct {
	block int
	bytes [api.Chunk]byte
}

// change does a change wholly, or not at all. No block is taken as long as something is owed: then there is no power.
func (c *Chunks) change(do func() api.Errno) api.Errno {
	c.pay()
	m, blocks := c.tree.Mark(), c.blocks.Copy()
	e := do()
	if e != api.OK {
		c.tree.Back(m)
		c.blocks = blocks
	}
	return e
}

// find: a chunk.
func (c *Chunks) find(ino, index int) (chunk, api.Errno) {
	if !isChunk(ino, index) {
		return chunk{}, api.ErrMiss
	}
	key := keyOf(ino, index)
	val, e := c.tree.Get(key)
	if e != api.OK {
		return chunk{}, e
	}
	return chunkOf(api.Pair{Key: key, Val: val})
}

// between: the chunks whose keys are from one on, and below another.
func (c *Chunks) between(from, to string) ([]chunk, api.Errno) {
	pairs, e := c.tree.Range(from, to, c.tree.Count())
	if e != api.OK {
		return nil, e
	}
	var l []chunk
	for _, p := range pairs {
		x, e := chunkOf(p)
		if e != api.OK {
			return nil, e
		}
		l = append(l, x)
	}
	return l, api.OK
}

// keep: what is known of a chunk is in the tree.
func (c *Chunks) keep(x chunk) api.Errno {
	p := x.pair()
	return c.tree.Put(p.Key, p.Val)
}

// place: a chunk is here, its bytes in a block that was free.
func (c *Chunks) place(x chunk, b string) api.Errno {
	block, e := c.blocks.Take()
	if e != api.OK {
		return e
	}
	x.block = block
	if e := c.device.Write(c.first+block, []byte(b)); e != api.OK {
		return e
	}
	if e := c.keep(x); e != api.OK {
		return e
	}
	c.note(block, b)
	return api.OK
}

// note: what was written to a block, if there is a mark that one may go back to.
func (c *Chunks) note(block int, b string) {
	if c.written == nil {
		return
	}
	var l [api.Chunk]byte
	copy(l[:], b)
	c.written[block] = l
}

// leave: a chunk's block is given back, if it has one.
func (c *Chunks) leave(x chunk) api.Errno {
	if !x.here() {
		return api.OK
	}
	return c.blocks.Give(x.block)
}

// drop: a chunk is there no longer.
func (c *Chunks) drop(x chunk) api.Errno {
	if e := c.tree.Drop(x.pair().Key); e != api.OK {
		return e
	}
	return c.leave(x)
}

// held: what a block holds; what is owed to it stands for what the device has.
func (c *Chunks) held(block int) ([]byte, api.Errno) {
	b, e := c.device.Read(c.first + block)
	if l, ok := c.owed[block]; ok && e != api.ErrDown {
		return l[:], api.OK
	}
	return b, e
}

// lacking: of what was written to blocks, what doesn't stand in them any longer, rising by block; how much of it, at the
// front, is of blocks that are free.
func (c *Chunks) lacking(w written) ([]bytesIn, int) {
	var free, taken []bytesIn
	for _, block := range slices.Sorted(maps.Keys(w)) {
		x := bytesIn{block, w[block]}
		switch now, ok := c.written[block]; {
		case !ok:
			free = append(free, x)
		case now != x.bytes:
			taken = append(taken, x)
		}
	}
	return append(free, taken...), len(free)
}

// restore: bytes stand in their blocks again, and last; the first so many blocks are free. Once a block that isn't free was
// written over, one can't go back without power; so then one goes on, and what isn't sure to last is owed.
func (c *Chunks) restore(l []bytesIn, free int) api.Errno {
	if len(l) == 0 {
		return api.OK
	}
	n, e := c.writeAll(l)
	if e == api.OK || n <= free {
		return e
	}
	c.owed = written{}
	for _, x := range l {
		c.owed[x.block] = x.bytes
	}
	return api.OK
}

// writeAll: bytes stand in their blocks, and last; how many were written, even if they may not last.
func (c *Chunks) writeAll(l []bytesIn) (int, api.Errno) {
	for i, x := range l {
		if e := c.device.Write(c.first+x.block, x.bytes[:]); e != api.OK {
			return i, e
		}
	}
	return len(l), c.device.Flush()
}

// pay: what is owed is written, if there is power.
func (c *Chunks) pay() {
	if len(c.owed) == 0 {
		return
	}
	var l []bytesIn
	for _, block := range slices.Sorted(maps.Keys(c.owed)) {
		l = append(l, bytesIn{block, c.owed[block]})
	}
	if _, e := c.writeAll(l); e == api.OK {
		c.owed = nil
	}
}
