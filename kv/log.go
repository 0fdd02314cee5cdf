package kv

import (
	"slices"
	"strings"

	"tidewrack/api"
	"tidewrack/wal"
)

const (
	folder      = "kv"
	maxSegments = 64
)

// find has the register of that key, or tells why it is out of reach.
func (s *Store) find(key string) (register, api.Errno) {
	if !isKey(key) {
		return register{}, api.ErrKvName
	}
	if e := s.reach(); e != api.OK {
		return register{}, e
	}
	return s.registers[key], api.OK
}

// reach lets the registers be known, or tells why they can not be.
func (s *Store) reach() api.Errno {
	if !s.disk.Up() {
		return api.ErrDiskOff
	}
	if s.registers != nil {
		return api.OK
	}
	return s.replay()
}

// replay opens the log, and takes its records in order: the later one holds.
func (s *Store) replay() api.Errno {
	log, recs, e := wal.Open(s.disk, folder)
	if e != api.OK {
		return e
	}
	registers := map[string]register{}
	for _, rec := range recs {
		key, r, ok := read(rec)
		if !ok {
			return api.ErrWalForm
		}
		registers[key] = r
	}
	s.Wal, s.registers = log, registers
	return api.OK
}

// keep lets a record stay, wherever the power goes from then on.
func (s *Store) keep(rec []byte) api.Errno {
	if e := s.Append(rec); e != api.OK {
		return e
	}
	return s.Sync()
}

// shorten cuts a log of too many segments to one record a register.
func (s *Store) shorten() api.Errno {
	if s.Segments() <= maxSegments {
		return api.OK
	}
	var recs [][]byte
	for _, key := range s.keys("") {
		recs = append(recs, s.registers[key].lay(key))
	}
	return s.Cut(recs)
}

// forget is what an error of the disk asks for: a record that is appended behind one that was torn would not be read any more.
func (s *Store) forget(e api.Errno) api.Errno {
	s.registers = nil
	return e
}

// keys are those of the registers that begin so, sorted.
func (s *Store) keys(prefix string) []string {
	var keys []string
	for key := range s.registers {
		if strings.HasPrefix(key, prefix) {
			keys = append(keys, key)
		}
	}
	slices.Sort(keys)
	return keys
}
