package files

import "cistern/api"

// part is a part of a chunk: its bytes from one on, and below another.
type part struct {
	index, from, to int
}

// edited is a chunk as it is to be written.
type edited struct {
	index int
	bytes string
}

// partsOf: where so many bytes of a file stand, from one on.
func partsOf(off, n int) []part {
	var l []part
	for end := off + n; off < end; {
		p := part{index: off / api.Chunk, from: off % api.Chunk}
		p.to = min(p.from+end-off, api.Chunk)
		l = append(l, p)
		off += p.to - p.from
	}
	return l
}

// chunksOf: how many chunks so many bytes take.
func chunksOf(size int) int {
	return (size + api.Chunk - 1) / api.Chunk
}

// leaves: do bytes stay that stood in the chunk, of a file of such a size, if this part of it is written? What lies
// beyond the size is noughts.
func (p part) leaves(size int) bool {
	old := min(size-p.index*api.Chunk, api.Chunk)
	return old > 0 && (p.from > 0 || p.to < old)
}
