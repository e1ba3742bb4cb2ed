package chunk

import "cistern/api"

// The keys of this layer: of a file's number and an index. So they stand by number, then by index.
const (
	firstKey   = "x"
	behindKeys = "y"
)

// How many bytes each part of a pair takes. All values are equally long, so that there is always room for another one.
const (
	inoWidth   = 4
	indexWidth = 1
	stateWidth = 1
	blockWidth = 2
	blobWidth  = 4 // the epoch, and the number too
	sumWidth   = 4
	keyWidth   = len(firstKey) + inoWidth + indexWidth
	valWidth   = stateWidth + blockWidth + 2*blobWidth + sumWidth
)

// How great a file's number may be, and an epoch or a number of a blob.
const (
	maxIno  = 1<<32 - 1
	maxBlob = 1<<31 - 1
)

// chunk is what is kept of a chunk.
type chunk struct {
	Extent
	block int // 0, if it is absent
}

// isChunk: may there be a chunk of this file's number and this index?
func isChunk(ino, index int) bool {
	return ino >= 1 && ino <= maxIno && index >= 0 && index < api.MaxChunks
}

// isBlob: may a chunk's blob be named so?
func isBlob(epoch, num int) bool {
	return epoch >= 0 && epoch <= maxBlob && num >= 0 && num <= maxBlob
}

// here: are its bytes on the device?
func (x chunk) here() bool {
	return x.State == dirty || x.State == clean
}

// away: the same chunk, if it were absent.
func (x chunk) away() chunk {
	x.State, x.block = absent, 0
	return x
}

// keyOf: the key of a chunk.
func keyOf(ino, index int) string {
	return firstKey + bytesOf(ino, inoWidth) + bytesOf(index, indexWidth)
}

// pair: a chunk as it is kept.
func (x chunk) pair() api.Pair {
	return api.Pair{
		Key: keyOf(x.Ino, x.Index),
		Val: bytesOf(x.State, stateWidth) + bytesOf(x.block, blockWidth) + bytesOf(x.Epoch, blobWidth) + bytesOf(x.Num, blobWidth) + bytesOf(x.Sum, sumWidth),
	}
}

// chunkOf: the chunk that is kept as a pair.
func chunkOf(p api.Pair) (chunk, api.Errno) {
	if len(p.Key) != keyWidth || len(p.Val) != valWidth {
		return chunk{}, api.ErrForm
	}
	key, val := p.Key[len(firstKey):], p.Val
	var x chunk
	x.Ino, key = numberOf(key, inoWidth)
	x.Index, _ = numberOf(key, indexWidth)
	x.State, val = numberOf(val, stateWidth)
	x.block, val = numberOf(val, blockWidth)
	x.Epoch, val = numberOf(val, blobWidth)
	x.Num, val = numberOf(val, blobWidth)
	x.Sum, _ = numberOf(val, sumWidth)
	if !x.right() || x.pair() != p {
		return chunk{}, api.ErrForm
	}
	return x, api.OK
}

// right: may there be such a chunk?
func (x chunk) right() bool {
	if !isChunk(x.Ino, x.Index) || !isBlob(x.Epoch, x.Num) || x.block >= api.MaxBlocks {
		return false
	}
	switch x.State {
	case dirty:
		return x.Epoch == 0 && x.Num == 0
	case clean:
		return true
	case absent:
		return x.block == 0
	}
	return false
}

// bytesOf: a number in so many bytes, the greatest first, so that greater numbers stand behind.
func bytesOf(n, width int) string {
	b := make([]byte, width)
	for i := range b {
		b[i] = byte(n >> (8 * (width - 1 - i)))
	}
	return string(b)
}

// numberOf: the number of the first so many bytes, and the others.
func numberOf(s string, width int) (int, string) {
	n := 0
	for i := range width {
		n = n<<8 | int(s[i])
	}
	return n, s[width:]
}
