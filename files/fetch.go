package files

import (
	"cistern/api"
	"cistern/chunk"
)

// absent is the state of a chunk that is away alone.
const absent = 3

// The kind of a directory, as names tell it.
const directory = 2

// noughts are the bytes of a chunk that isn't there.
func noughts() string {
	return string(make([]byte, api.Chunk))
}

// size: how many bytes a file has.
func (f *Files) size(ino int) (int, api.Errno) {
	i, e := f.names.Info(ino)
	if e != api.OK {
		return 0, e
	}
	if i.Kind == directory {
		return 0, api.ErrDir
	}
	return i.Size, api.OK
}

// bytes: those of a chunk, whether it is here, away, or not there.
func (f *Files) bytes(ino, index int) (string, api.Errno) {
	x, e := f.chunks.Get(ino, index)
	switch {
	case e == api.ErrMiss:
		return noughts(), api.OK
	case e != api.OK:
		return "", e
	case x.State == absent:
		return f.fetch(x)
	}
	return f.chunks.Read(ino, index)
}

// fetch: the bytes of a chunk that is away; it is here, if there is a block for it. Whether they are the chunk's is seen
// by who takes them in, ahead of the room that there is.
func (f *Files) fetch(x chunk.Extent) (string, api.Errno) {
	b, e := f.store.Get(Blob(x.Epoch, x.Num))
	if e == api.ErrMiss {
		return "", api.ErrRemote
	}
	if e != api.OK {
		return "", e
	}
	if len(b) != api.Chunk {
		return "", api.ErrSum
	}
	s := string(b)
	if e := f.chunks.Fill(x.Ino, x.Index, s); e != api.OK && e != api.ErrSpace {
		return "", e
	}
	return s, api.OK
}
