package store

import (
	"strings"

	"palmette/api"
	"palmette/graphio"
	"palmette/wal"
)

// operation replays a logged operation on a graph. The argument is what follows the keyword in the first line of the
// data; body is what follows that line, if hasBody.
type operation struct {
	replay func(s *Store, name, argument, body string) bool
	// hasArgument and hasBody tell which parts the data must have.
	hasArgument, hasBody bool
}

func operations() map[string]operation {
	return map[string]operation{
		createWord: {replay: func(s *Store, name, _, _ string) bool { return s.Create(name) == api.OK }},
		dropWord:   {replay: func(s *Store, name, _, _ string) bool { return s.Drop(name) == api.OK }},
		applyWord: {hasBody: true, replay: func(s *Store, name, _, body string) bool {
			es, _, e := graphio.ParseEdits(body)
			if e != api.OK {
				return false
			}
			_, e = s.Apply(name, es...)
			return e == api.OK
		}},
		registerWord: {hasArgument: true, hasBody: true, replay: func(s *Store, name, argument, body string) bool {
			kind, query, is := strings.Cut(argument, " ")
			if !is || len(kind) != 1 || kind[0] < '0' || kind[0] > '9' {
				return false
			}
			_, e := s.Register(name, query, body, int(kind[0]-'0'))
			return e == api.OK
		}},
		unregisterWord: {hasArgument: true, replay: func(s *Store, name, argument, _ string) bool {
			return s.Unregister(name, argument) == api.OK
		}},
	}
}

// replay performs the operation of an entry, and reports whether it is replayable.
func (s *Store) replay(e wal.Entry, all map[string]operation) bool {
	line, body, hasBody := strings.Cut(e.Data, "\n")
	word, argument, hasArgument := strings.Cut(line, " ")
	o, is := all[word]
	return is && o.hasBody == hasBody && o.hasArgument == hasArgument && o.replay(s, e.Name, argument, body)
}

// Open restores a store from the bytes of a log.
func Open(b []byte) (*Store, int, api.Errno) {
	log, _, e := wal.Recover(b)
	s := New()
	all := operations()
	for _, x := range log.Entries() {
		if !s.replay(x, all) {
			e = api.ErrFormat
			break
		}
	}
	return s, len(s.Bytes()), e
}
