package names

import "cistern/api"

// The keys of this layer: of a thing's number, and of a directory's number and a name in it. The names of one directory
// so stand side by side, rising.
const (
	firstKey   = "n"
	thingKeys  = "nt"
	nameKeys   = "nn"
	behindKeys = "o"
)

// behindNames is behind all names, as none has its byte.
const behindNames = "\x7f"

// width is how many bytes a number takes. No more numbers than maxIno are given, as no program takes so many steps.
const (
	width  = 4
	maxIno = 1<<31 - 1
)

// The letters at the front of what is kept of a thing.
const (
	fileLetter      = "f"
	directoryLetter = "d"
)

// thing is a file or a directory.
type thing struct {
	Info
	greatest int // of the root alone: the greatest number that was ever given
}

// thingKey: the key of a number.
func thingKey(ino int) string {
	return thingKeys + bytesOf(ino)
}

// nameKey: the key of a name in a directory.
func nameKey(dir int, name string) string {
	return nameKeys + bytesOf(dir) + name
}

// bytesOf: a number, the greatest byte first, so that greater numbers stand behind.
func bytesOf(n int) string {
	return string([]byte{byte(n >> 24), byte(n >> 16), byte(n >> 8), byte(n)})
}

// numberOf: the number of so many bytes.
func numberOf(s string) int {
	n := 0
	for i := range width {
		n = n<<8 | int(s[i])
	}
	return n
}

// value: what is kept of a thing. All values of one thing are equally long, so that there is always room for another one.
func (x thing) value() string {
	switch {
	case x.Kind == file:
		return fileLetter + bytesOf(x.Size) + bytesOf(x.Links)
	case x.Ino == root:
		return directoryLetter + bytesOf(x.greatest)
	}
	return directoryLetter
}

// thingOf: the thing of a number, of which a value is kept.
func thingOf(ino int, val string) (thing, api.Errno) {
	if len(val) == 0 {
		return thing{}, api.ErrForm
	}
	x := thing{Info: Info{Ino: ino, Kind: directory, Links: 1}}
	letter, rest := val[:1], val[1:]
	switch {
	case letter == fileLetter && ino != root && len(rest) == 2*width:
		x.Kind, x.Size, x.Links = file, numberOf(rest), numberOf(rest[width:])
	case letter == directoryLetter && ino == root && len(rest) == width:
		x.greatest = numberOf(rest)
	case letter == directoryLetter && ino != root && rest == "":
	default:
		return thing{}, api.ErrForm
	}
	if x.Size > maxSize || x.greatest > maxIno {
		return thing{}, api.ErrForm
	}
	return x, api.OK
}

// last: the number of a file that has but one name; of all else 0.
func (x thing) last() int {
	if x.Kind == file && x.Links == 1 {
		return x.Ino
	}
	return 0
}
