package files

import (
	"cistern/api"
	"cistern/chunk"
)

// change does a change wholly, or not at all.
func (f *Files) change(do func() api.Errno) api.Errno {
	m := f.chunks.Mark()
	e := do()
	if e != api.OK {
		f.chunks.Back(m)
	}
	return e
}

// changeFrom does a change for which chunks may have been fetched since a mark. Where it has no room, they may have
// taken the blocks that it wants: so it is done once more without them.
func (f *Files) changeFrom(m *chunk.Mark, do func() api.Errno) api.Errno {
	e := f.change(do)
	if e != api.ErrSpace {
		return e
	}
	if e := f.chunks.Back(m); e != api.OK {
		return e
	}
	return f.change(do)
}

// written: the chunks of a file of such a size, as they are to be when these bytes stand in it.
func (f *Files) written(ino, size, off int, b []byte) ([]edited, api.Errno) {
	var l []edited
	for _, p := range partsOf(off, len(b)) {
		old := noughts()
		if p.leaves(size) {
			var e api.Errno
			if old, e = f.bytes(ino, p.index); e != api.OK {
				return nil, e
			}
		}
		count := p.to - p.from
		l = append(l, edited{p.index, old[:p.from] + string(b[:count]) + old[p.to:]})
		b = b[count:]
	}
	return l, api.OK
}

// shortened: the last chunk of a file that is to have so many bytes, as it is to be; none, if that isn't there, or stays whole.
func (f *Files) shortened(ino, size int) ([]edited, api.Errno) {
	index, rest := size/api.Chunk, size%api.Chunk
	if rest == 0 {
		return nil, api.OK
	}
	if _, e := f.chunks.Get(ino, index); e == api.ErrMiss {
		return nil, api.OK
	}
	b, e := f.bytes(ino, index)
	if e != api.OK {
		return nil, e
	}
	return []edited{{index, b[:rest] + noughts()[rest:]}}, api.OK
}

// put: chunks are written.
func (f *Files) put(ino int, l []edited) api.Errno {
	for _, x := range l {
		if e := f.chunks.Write(ino, x.index, x.bytes); e != api.OK {
			return e
		}
	}
	return api.OK
}

// resize: a file's size is another one.
func (f *Files) resize(ino, old, size int) api.Errno {
	if size == old {
		return api.OK
	}
	return f.names.Resize(ino, size)
}
