package names

import (
	"math"
	"strings"

	"cistern/api"
)

// The keys of this layer: of a thing's number, and of a directory's number and a name in it. The names of one directory
// so stand side by side, rising.
const (
	firstKey   = "n"
	thingKeys  = "nt"
	nameKeys   = "nn"
	behindKeys = "o"
)

// behindNames is behind all names, as none has its byte.
const behindNames = "\x7f"

// How many bytes a count takes, a size or how many names there are, and how many any number.
const (
	countWidth  = 4
	numberWidth = 8
)

// A tree in which more than maxGreatest numbers were given isn't taken for names: a program of so many steps as are
// promised could ask for more numbers than there are left.
const (
	maxSteps    = 1<<31 - 1
	maxGreatest = math.MaxInt - maxSteps
)

// The letters at the front of what is kept of a thing.
const (
	fileLetter      = "f"
	directoryLetter = "d"
)

// thing is a file or a directory.
type thing struct {
	Info
	greatest int // of the root alone: the greatest number that was ever given
}

// thingKey: the key of a number.
func thingKey(ino int) string {
	return thingKeys + placed(ino)
}

// nameKey: the key of a name in a directory.
func nameKey(dir int, name string) string {
	return nameKeys + placed(dir) + name
}

// placed: a thing's number as it stands in keys, and in the pairs of names: how many bytes it takes, and these. So no
// number is the beginning of another one.
func placed(ino int) string {
	b := strings.TrimLeft(bytesOf(ino, numberWidth), "\x00")
	return bytesOf(len(b), 1) + b
}

// placedAt: the thing's number with which a text begins, and what comes behind it.
func placedAt(s string) (int, string, bool) {
	if s == "" || len(s) <= int(s[0]) {
		return 0, "", false
	}
	end := 1 + int(s[0])
	ino := numberOf(s[1:end])
	return ino, s[end:], ino >= root && s[:end] == placed(ino)
}

// placedAlone: the thing's number that a text is.
func placedAlone(s string) (int, bool) {
	ino, rest, ok := placedAt(s)
	return ino, ok && rest == ""
}

// bytesOf: a number in so many bytes, the greatest first.
func bytesOf(n, width int) string {
	b := make([]byte, width)
	for i := range b {
		b[i] = byte(n >> (8 * (width - 1 - i)))
	}
	return string(b)
}

// numberOf: the number of bytes.
func numberOf(s string) int {
	n := 0
	for i := range len(s) {
		n = n<<8 | int(s[i])
	}
	return n
}

// value: what is kept of a thing. All values of one thing are equally long, so that there is always room for another one.
func (x thing) value() string {
	switch {
	case x.Kind == file:
		return fileLetter + bytesOf(x.Size, countWidth) + bytesOf(x.Links, countWidth)
	case x.Ino == root:
		return directoryLetter + bytesOf(x.greatest, numberWidth)
	}
	return directoryLetter
}

// thingOf: the thing of a number, of which a value is kept.
func thingOf(ino int, val string) (thing, api.Errno) {
	if len(val) == 0 {
		return thing{}, api.ErrForm
	}
	x := thing{Info: Info{Ino: ino, Kind: directory, Links: 1}}
	letter, rest := val[:1], val[1:]
	switch {
	case letter == fileLetter && ino != root && len(rest) == 2*countWidth:
		x.Kind, x.Size, x.Links = file, numberOf(rest[:countWidth]), numberOf(rest[countWidth:])
	case letter == directoryLetter && ino == root && len(rest) == numberWidth:
		x.greatest = numberOf(rest)
	case letter == directoryLetter && ino != root && rest == "":
	default:
		return thing{}, api.ErrForm
	}
	if x.Size > maxSize {
		return thing{}, api.ErrForm
	}
	return x, api.OK
}

// last: the number of a file that has but one name; of all else 0.
func (x thing) last() int {
	if x.Kind == file && x.Links == 1 {
		return x.Ino
	}
	return 0
}
