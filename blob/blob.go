// Package blob is layer 2: a remote store of blobs with a root: see shared/doc/02-blob.md.
package blob

import (
	"bytes"
	"maps"
	"slices"

	"cistern/api"
)

// maxName is how many bytes a blob's name may have.
const maxName = 40

// The outcomes of a call.
const (
	answered = 0
	failed   = 1
	lost     = 2 // carried out, but for the answer
)

// Store is a remote store.
type Store struct {
	blobs    map[string][]byte
	version  int
	root     string
	outcomes []int
	calls    int
}

// Name: is it a blob's name?
func Name(s string) bool {
	if len(s) < 1 || len(s) > maxName {
		return false
	}
	for i := 0; i < len(s); i++ {
		if !letter(s[i]) {
			return false
		}
	}
	return true
}

// letter: may a blob's name have this byte?
func letter(c byte) bool {
	return c >= 'a' && c <= 'z' || c >= '0' && c <= '9' || c == '-'
}

// New: an empty store.
func New() *Store { return &Store{} }

// Script: how the next calls go.
func (s *Store) Script(l []int) {
	if s == nil {
		return
	}
	s.outcomes = append(s.outcomes, l...)
}

// Calls: how many calls were made.
func (s *Store) Calls() int {
	if s == nil {
		return 0
	}
	return s.calls
}

// Put: a blob.
func (s *Store) Put(name string, b []byte) api.Errno {
	if e := s.refuse(name); e != api.OK {
		return e
	}
	if len(b) > api.MaxBlob {
		return api.ErrBig
	}
	return s.change(func() api.Errno {
		if s.blobs == nil {
			s.blobs = make(map[string][]byte)
		}
		s.blobs[name] = bytes.Clone(b)
		return api.OK
	})
}

// Get: a blob's bytes.
func (s *Store) Get(name string) ([]byte, api.Errno) {
	if e := s.refuse(name); e != api.OK {
		return nil, e
	}
	if s.take() != answered {
		return nil, api.ErrRemote
	}
	b, ok := s.blobs[name]
	if !ok {
		return nil, api.ErrMiss
	}
	return bytes.Clone(b), api.OK
}

// Delete: a blob is there no longer.
func (s *Store) Delete(name string) api.Errno {
	if e := s.refuse(name); e != api.OK {
		return e
	}
	return s.change(func() api.Errno {
		delete(s.blobs, name)
		return api.OK
	})
}

// List: all names.
func (s *Store) List() ([]string, api.Errno) {
	if s == nil {
		return nil, api.ErrArg
	}
	if s.take() != answered {
		return nil, api.ErrRemote
	}
	return slices.Sorted(maps.Keys(s.blobs)), api.OK
}

// Root: the root's version and name.
func (s *Store) Root() (int, string, api.Errno) {
	if s == nil {
		return 0, "", api.ErrArg
	}
	if s.take() != answered {
		return 0, "", api.ErrRemote
	}
	return s.version, s.root, api.OK
}

// Swap: another root, if its version is that.
func (s *Store) Swap(version int, name string) api.Errno {
	if e := s.refuse(name); e != api.OK {
		return e
	}
	return s.change(func() api.Errno {
		if version != s.version {
			return api.ErrRoot
		}
		s.version++
		s.root = name
		return api.OK
	})
}

// refuse: the error of a call that takes no outcome, for want of a store or of a name.
func (s *Store) refuse(name string) api.Errno {
	if s == nil {
		return api.ErrArg
	}
	if !Name(name) {
		return api.ErrName
	}
	return api.OK
}

// take: the outcome of one more call, from 0 to 2; the language's own rest has the sign of what is divided.
func (s *Store) take() int {
	s.calls++
	if len(s.outcomes) == 0 {
		return answered
	}
	first := s.outcomes[0]
	s.outcomes = s.outcomes[1:]
	return (first%3 + 3) % 3
}

// change: a call that changes the store takes its outcome; what a lost answer would have told isn't known.
func (s *Store) change(do func() api.Errno) api.Errno {
	outcome := s.take()
	if outcome == failed {
		return api.ErrRemote
	}
	e := do()
	if outcome == lost {
		return api.ErrRemote
	}
	return e
}
