package version

import (
	"hindsight/api"
	"hindsight/schema"
	"hindsight/undo"
)

// Insert adds a current version.
func (s *Store) Insert(values []api.Value, stamp int64) api.Errno {
	if !s.made() {
		return api.ErrNil
	}
	key, err := schema.KeyOf(s.table, values)
	if err != api.OK {
		return err
	}
	_, is, err := s.Get(key)
	b, fits := encode(Row{Values: values, From: stamp})
	switch {
	case is:
		return api.ErrUnique
	case !fits:
		return api.ErrLong
	case err != api.OK:
		return err
	}
	return s.change(func() api.Errno { return s.current.Put(string(key), b) })
}

// Replace gives the current version of a key other values.
func (s *Store) Replace(key []byte, values []api.Value, stamp int64) api.Errno {
	if !s.made() {
		return api.ErrNil
	}
	own, err := schema.KeyOf(s.table, values)
	if err != api.OK {
		return err
	}
	old, is, err := s.Get(key)
	b, fits := encode(Row{Values: values, From: stamp})
	switch {
	case err == api.OK && !is:
		return api.ErrNone
	case string(own) != string(key):
		return api.ErrArg
	case is && old.From > stamp:
		return api.ErrState
	case !fits:
		return api.ErrLong
	case err != api.OK:
		return err
	}
	return s.change(func() api.Errno {
		if err := s.current.Put(string(key), b); err != api.OK {
			return err
		}
		return s.end(string(key), old, stamp)
	})
}

// Delete removes the current version of a key.
func (s *Store) Delete(key []byte, stamp int64) api.Errno {
	old, is, err := s.Get(key)
	switch {
	case err != api.OK:
		return err
	case !is:
		return api.ErrNone
	case old.From > stamp:
		return api.ErrState
	}
	return s.change(func() api.Errno {
		if _, err := s.current.Del(string(key)); err != api.OK {
			return err
		}
		return s.end(string(key), old, stamp)
	})
}

// Prune removes the past versions whose To is not above mark, and returns their number.
func (s *Store) Prune(mark int64) (int, api.Errno) {
	switch {
	case !s.made():
		return 0, api.ErrNil
	case s.history == nil:
		return 0, api.ErrPeriod
	}
	var places []string
	for x, err := range s.pasts() {
		if err != api.OK {
			return 0, err
		}
		if !endsAbove(x.Row, mark) {
			places = append(places, x.place)
		}
	}
	if err := s.forget(places); err != api.OK {
		return 0, err
	}
	return len(places), api.OK
}

// Drop drops the trees.
func (s *Store) Drop() api.Errno {
	if !s.made() {
		return api.ErrNil
	}
	return s.change(func() api.Errno {
		if err := s.current.Drop(); err != api.OK || s.history == nil {
			return err
		}
		return s.history.Drop()
	})
}

// change changes the trees, as a whole or not at all.
func (s *Store) change(do func() api.Errno) api.Errno { return undo.OnError(s.pager, do) }

// end makes a version that is not current any more a past one, if it was the row of its key at any stamp.
func (s *Store) end(key string, old Row, stamp int64) api.Errno {
	if s.history == nil || old.From >= stamp {
		return api.OK
	}
	b, _ := encode(old) // what was read is short enough
	return s.history.Put(placeOf(key, stamp), b)
}

// forget removes the past versions at some places.
func (s *Store) forget(places []string) api.Errno {
	if len(places) == 0 {
		return api.OK
	}
	return s.change(func() api.Errno {
		for _, place := range places {
			if _, err := s.history.Del(place); err != api.OK {
				return err
			}
		}
		return api.OK
	})
}
