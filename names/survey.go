package names

import (
	"strings"

	"cistern/api"
	"cistern/route"
)

// found is what stands in the pairs of a tree.
type found struct {
	things map[int]thing
	inside map[int][]int // by a directory's number: the numbers of what has the names in it
	names  int
	met    map[int]int // by a number: how many of its names were met
}

// survey: are these pairs names, as this layer keeps them?
func survey(pairs []api.Pair) api.Errno {
	f := found{things: map[int]thing{}, inside: map[int][]int{}, met: map[int]int{}}
	for _, p := range pairs {
		if !f.takeThing(p) && !f.takeName(p) {
			return api.ErrForm
		}
	}
	// The root has its one name in no directory, so another one is one too many.
	f.met[root] = 1
	if !f.visit(root, 0) || !f.allMet() {
		return api.ErrForm
	}
	return api.OK
}

// takeThing takes the pair of a thing; is it one?
func (f *found) takeThing(p api.Pair) bool {
	at, ok := strings.CutPrefix(p.Key, thingKeys)
	if !ok {
		return false
	}
	ino, ok := placedAlone(at)
	if !ok {
		return false
	}
	x, e := thingOf(ino, p.Val)
	if e != api.OK {
		return false
	}
	f.things[ino] = x
	return true
}

// takeName takes the pair of a name; is it one?
func (f *found) takeName(p api.Pair) bool {
	at, ok := strings.CutPrefix(p.Key, nameKeys)
	if !ok {
		return false
	}
	dir, name, ok := placedAt(at)
	if !ok || !route.Name(name) {
		return false
	}
	ino, ok := placedAlone(p.Val)
	if !ok {
		return false
	}
	f.inside[dir] = append(f.inside[dir], ino)
	f.names++
	return true
}

// visit: are the names below a directory, whose own path has so many, as they must be? As no directory is visited twice,
// all of it ends, whatever the pairs say.
func (f *found) visit(dir, depth int) bool {
	for _, ino := range f.inside[dir] {
		// What isn't there has no names.
		x := f.things[ino]
		f.met[ino]++
		if f.met[ino] > x.Links || depth == api.MaxDepth {
			return false
		}
		if x.Kind == directory && !f.visit(ino, depth+1) {
			return false
		}
	}
	return true
}

// allMet: is there no name that wasn't met, and has each thing as many as it says, and a number that was given?
func (f *found) allMet() bool {
	greatest, met := f.things[root].greatest, 0
	if greatest > maxGreatest {
		return false
	}
	for ino, x := range f.things {
		if ino > greatest || x.Links == 0 || f.met[ino] != x.Links {
			return false
		}
		met += x.Links
	}
	// The root's one name stands in no pair.
	return met == f.names+1
}
