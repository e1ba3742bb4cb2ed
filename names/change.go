package names

import (
	"cistern/api"
	"cistern/route"
)

// move is what a Rename does: the thing that is moved, the keys of its name ahead and behind, and the thing that has the
// name to ahead (none: with the number 0).
type move struct {
	moved, old thing
	from, to   string
}

// change does a change wholly, or not at all.
func (n *Names) change(do func() api.Errno) api.Errno {
	m := n.tree.Mark()
	e := do()
	if e != api.OK {
		n.tree.Back(m)
	}
	return e
}

// keep: what is known of a thing is in the tree.
func (n *Names) keep(x thing) api.Errno {
	return n.tree.Put(thingKey(x.Ino), x.value())
}

// lose: a thing has one name less, and is there no longer without any. What was nothing has none to lose.
func (n *Names) lose(x thing) api.Errno {
	switch x.Links {
	case 0:
		return api.OK
	case 1:
		return n.tree.Drop(thingKey(x.Ino))
	}
	x.Links--
	return n.keep(x)
}

// remove: the thing that a path names loses that name.
func (n *Names) remove(path string, x thing) api.Errno {
	key, e := n.slot(path)
	if e != api.OK {
		return e
	}
	return n.change(func() api.Errno {
		if e := n.tree.Drop(key); e != api.OK {
			return e
		}
		return n.lose(x)
	})
}

// moveOf: what is to be done so that what one path names has the name of another one. If both name one thing already,
// that is both moved and old.
func (n *Names) moveOf(from, to string) (move, api.Errno) {
	more, e := moreBelow(to)
	if e != api.OK {
		return move{}, e
	}
	m, e := n.ends(from, to)
	if e != api.OK {
		return move{}, e
	}
	m.old, e = n.named(m.to)
	switch {
	case e == api.ErrMiss:
		e = api.OK
	case e == api.OK && m.old.Ino == m.moved.Ino:
		return m, api.OK
	case e == api.OK:
		e = n.replaces(m.moved, m.old)
	}
	if e == api.OK {
		e = n.fits(m.moved, more)
	}
	if e != api.OK {
		return move{}, e
	}
	return m, api.OK
}

// moreBelow: how many names more than a path those below it may have. ErrName: it isn't a path of names.
func moreBelow(path string) (int, api.Errno) {
	names, e := route.Parse(path)
	if e != api.OK || len(names) == 0 {
		return 0, api.ErrName
	}
	return api.MaxDepth - len(names), api.OK
}

// ends: a move with what is moved, and its keys.
func (n *Names) ends(from, to string) (move, api.Errno) {
	source, e := n.slot(from)
	if e != api.OK {
		return move{}, e
	}
	x, e := n.named(source)
	if e != api.OK {
		return move{}, e
	}
	under, e := route.Under(to, from)
	if e != api.OK {
		return move{}, e
	}
	if under && x.Kind == directory {
		return move{}, api.ErrLoop
	}
	target, e := n.slot(to)
	if e != api.OK {
		return move{}, e
	}
	return move{moved: x, from: source, to: target}, api.OK
}

// replaces: may a thing take the place of another one?
func (n *Names) replaces(x, old thing) api.Errno {
	switch {
	case x.Kind == file && old.Kind == directory:
		return api.ErrDir
	case x.Kind == directory && old.Kind == file:
		return api.ErrFile
	case old.Kind == directory:
		return n.empty(old)
	}
	return api.OK
}
