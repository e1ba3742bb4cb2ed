package chunk

import (
	"maps"
	"slices"

	"cistern/api"
)

// written are the bytes that were written, by their blocks. A block that was taken since one mark is free behind going
// back to that, and may be written anew; who then goes back to a later mark finds the bytes here.
type written map[int][api.Chunk]byte

// copied: others that are just like these.
func (w written) copied() written {
	return maps.Clone(w)
}

// change does a change wholly, or not at all.
func (c *Chunks) change(do func() api.Errno) api.Errno {
	m, blocks := c.tree.Mark(), c.blocks.Copy()
	e := do()
	if e != api.OK {
		c.tree.Back(m)
		c.blocks = blocks
	}
	return e
}

// find: a chunk.
func (c *Chunks) find(ino, index int) (chunk, api.Errno) {
	if !isChunk(ino, index) {
		return chunk{}, api.ErrMiss
	}
	key := keyOf(ino, index)
	val, e := c.tree.Get(key)
	if e != api.OK {
		return chunk{}, e
	}
	return chunkOf(api.Pair{Key: key, Val: val})
}

// between: the chunks whose keys are from one on, and below another.
func (c *Chunks) between(from, to string) ([]chunk, api.Errno) {
	pairs, e := c.tree.Range(from, to, c.tree.Count())
	if e != api.OK {
		return nil, e
	}
	var l []chunk
	for _, p := range pairs {
		x, e := chunkOf(p)
		if e != api.OK {
			return nil, e
		}
		l = append(l, x)
	}
	return l, api.OK
}

// keep: what is known of a chunk is in the tree.
func (c *Chunks) keep(x chunk) api.Errno {
	p := x.pair()
	return c.tree.Put(p.Key, p.Val)
}

// place: a chunk is here, its bytes in a block that was free.
func (c *Chunks) place(x chunk, b string) api.Errno {
	block, e := c.blocks.Take()
	if e != api.OK {
		return e
	}
	x.block = block
	if e := c.device.Write(c.first+block, []byte(b)); e != api.OK {
		return e
	}
	if e := c.keep(x); e != api.OK {
		return e
	}
	c.note(block, b)
	return api.OK
}

// note: what was written to a block, if there is a mark that one may go back to.
func (c *Chunks) note(block int, b string) {
	if c.written == nil {
		return
	}
	var l [api.Chunk]byte
	copy(l[:], b)
	c.written[block] = l
}

// leave: a chunk's block is given back, if it has one.
func (c *Chunks) leave(x chunk) api.Errno {
	if !x.here() {
		return api.OK
	}
	return c.blocks.Give(x.block)
}

// drop: a chunk is there no longer.
func (c *Chunks) drop(x chunk) api.Errno {
	if e := c.tree.Drop(x.pair().Key); e != api.OK {
		return e
	}
	return c.leave(x)
}

// restore: what was written to blocks stands in them again, rising by block; what stands there still isn't written anew.
func (c *Chunks) restore(w written) api.Errno {
	for _, block := range slices.Sorted(maps.Keys(w)) {
		b := w[block]
		if now, ok := c.written[block]; ok && now == b {
			continue
		}
		if e := c.device.Write(c.first+block, b[:]); e != api.OK {
			return e
		}
	}
	return api.OK
}
