package obj

import (
	"slices"
	"strings"

	"tidewrack/api"
	"tidewrack/codec"
	"tidewrack/names"
)

// The folders of the disk: a file of drafts is nothing yet.
const (
	objects = "o/"
	drafts  = "t/"
)

const maxKey = 56

// object: there is none, if its generation is 0.
type object struct {
	gen  uint64
	data []byte
}

func isKey(s string) bool {
	return names.OfFile(s) && len(s) <= maxKey && !strings.HasPrefix(s, objects) && !strings.HasPrefix(s, drafts)
}

// find has the object of that key, or tells why there is none to be had.
func (s *Store) find(key string) (object, api.Errno) {
	if !isKey(key) {
		return object{}, api.ErrObjName
	}
	o, e := s.stands(key)
	if e == api.OK && o.gen == 0 {
		return object{}, api.ErrObjNone
	}
	return o, e
}

// before has what stands in the place of an object that is to be put, or tells why it can not be.
func (s *Store) before(key string, data []byte) (object, api.Errno) {
	if !isKey(key) {
		return object{}, api.ErrObjName
	}
	if len(data) > api.MaxObject {
		return object{}, api.ErrObjSize
	}
	return s.stands(key)
}

func (s *Store) stands(key string) (object, api.Errno) {
	b, e := s.disk.Read(objects + key)
	if e == api.ErrDiskNone {
		return object{}, api.OK
	}
	if e != api.OK {
		return object{}, e
	}
	return read(b), api.OK
}

// read has the object of a file's bytes. Whoever writes other bytes there has made no object.
func read(b []byte) object {
	rec, at, e := codec.Unframe(b, 0)
	if e != api.OK {
		return object{}
	}
	gen, end, e := codec.Uint(rec, 0)
	if e != api.OK || end != len(rec) || gen == 0 || len(b)-at > api.MaxObject {
		return object{}
	}
	return object{gen: gen, data: b[at:]}
}

// lay has the bytes of an object's file.
func (o object) lay() []byte {
	frame, _ := codec.Frame(codec.PutUint(nil, o.gen)) // a number is never too long for a frame
	return slices.Concat(frame, o.data)
}
