package names

import (
	"cistern/api"
	"cistern/route"
)

// thing: what is kept of a number.
func (n *Names) thing(ino int) (thing, api.Errno) {
	if ino < root {
		return thing{}, api.ErrMiss
	}
	val, e := n.tree.Get(thingKey(ino))
	if e != api.OK {
		return thing{}, e
	}
	return thingOf(ino, val)
}

// named: what the name of a key names.
func (n *Names) named(key string) (thing, api.Errno) {
	val, e := n.tree.Get(key)
	if e != api.OK {
		return thing{}, e
	}
	ino, ok := placedAlone(val)
	if !ok {
		return thing{}, api.ErrForm
	}
	return n.thing(ino)
}

// look: what a path names.
func (n *Names) look(path string) (thing, api.Errno) {
	if path == rootPath {
		return n.thing(root)
	}
	key, e := n.slot(path)
	if e != api.OK {
		return thing{}, e
	}
	return n.named(key)
}

// slot: the key of a path's last name, whether that is there or not.
func (n *Names) slot(path string) (string, api.Errno) {
	above, name, e := route.Parent(path)
	if e != api.OK {
		return "", e
	}
	x, e := n.look(above)
	if e != api.OK {
		return "", e
	}
	if x.Kind == file {
		return "", api.ErrFile
	}
	return nameKey(x.Ino, name), api.OK
}

// vacant: the key of a path's last name, which isn't there.
func (n *Names) vacant(path string) (string, api.Errno) {
	key, e := n.slot(path)
	if e != api.OK {
		return "", e
	}
	if _, e := n.named(key); e == api.OK {
		return "", api.ErrThere
	} else if e != api.ErrMiss {
		return "", e
	}
	return key, api.OK
}

// inside: the pairs of the names in a directory.
func (n *Names) inside(dir int) ([]api.Pair, api.Errno) {
	return n.tree.Range(nameKey(dir, ""), nameKey(dir, behindNames), n.tree.Count())
}

// empty: are there no names in a directory? ErrFull, if there are.
func (n *Names) empty(dir thing) api.Errno {
	l, e := n.inside(dir.Ino)
	if e == api.OK && len(l) > 0 {
		return api.ErrFull
	}
	return e
}

// fits: have all paths below a thing at most so many names more than its own? ErrBig, if they haven't. (There is nothing
// below a file.)
func (n *Names) fits(x thing, more int) api.Errno {
	l, e := n.inside(x.Ino)
	if e != api.OK {
		return e
	}
	if len(l) > 0 && more == 0 {
		return api.ErrBig
	}
	for _, p := range l {
		below, e := n.named(p.Key)
		if e != api.OK {
			return e
		}
		if e := n.fits(below, more-1); e != api.OK {
			return e
		}
	}
	return api.OK
}
