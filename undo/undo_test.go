package undo_test

import (
	"testing"

	"hindsight/api"
	"hindsight/pager"
	"hindsight/undo"
	"hindsight/vdisk"
)

// must reports an error that is not expected.
func must(t *testing.T, what string, code api.Errno) {
	t.Helper()
	if code != api.OK {
		t.Fatalf("%s = %v", what, code)
	}
}

// open is the pager of an empty disk.
func open(t *testing.T) *pager.Pager {
	t.Helper()
	d, code := vdisk.New(100)
	must(t, "New", code)
	p, code := pager.Open(d)
	must(t, "Open", code)
	return p
}

// grow is a change that adds pages and ends with an error.
func grow(t *testing.T, p *pager.Pager, count int, err api.Errno) func() api.Errno {
	return func() api.Errno {
		for range count {
			_, code := p.Alloc()
			must(t, "Alloc", code)
		}
		return err
	}
}

func TestOnError(t *testing.T) {
	for saves := range api.MaxSaves {
		p := open(t)
		must(t, "Begin", p.Begin())
		for range saves {
			_, code := p.Save()
			must(t, "Save", code)
		}
		for _, err := range []api.Errno{api.ErrFull, api.ErrCorrupt, api.ErrDown, api.ErrNone} {
			if code := undo.OnError(p, grow(t, p, 3, err)); code != err || p.Pages() != 1 {
				t.Errorf("OnError = %v, Pages = %d", code, p.Pages())
			}
		}
		if code := undo.OnError(p, grow(t, p, 3, api.OK)); code != api.OK || p.Pages() != 4 {
			t.Errorf("OnError = %v, Pages = %d", code, p.Pages())
		}
		if code := undo.OnError(p, grow(t, p, 2, api.ErrFull)); code != api.ErrFull || p.Pages() != 4 {
			t.Errorf("OnError = %v, Pages = %d", code, p.Pages())
		}
		// The savepoints are those that there were.
		if n, code := p.Save(); n != saves+1 || code != api.OK {
			t.Errorf("Save = %d %v", n, code)
		}
	}
}

// TestNoSave makes changes while there are as many savepoints as there can be.
func TestNoSave(t *testing.T) {
	p := open(t)
	must(t, "Begin", p.Begin())
	for range api.MaxSaves {
		_, code := p.Save()
		must(t, "Save", code)
	}
	if code := undo.OnError(p, grow(t, p, 3, api.OK)); code != api.OK || p.Pages() != 4 {
		t.Errorf("OnError = %v, Pages = %d", code, p.Pages())
	}
	if code := undo.OnError(p, grow(t, p, 3, api.ErrCorrupt)); code != api.ErrCorrupt || p.Pages() != 7 {
		t.Errorf("OnError = %v, Pages = %d", code, p.Pages())
	}
	must(t, "Back", p.Back(api.MaxSaves))
	if p.Pages() != 1 {
		t.Errorf("Pages = %d", p.Pages())
	}
}

func TestNoTransaction(t *testing.T) {
	called := false
	change := func() api.Errno {
		called = true
		return api.OK
	}
	for _, c := range []struct {
		p    *pager.Pager
		want api.Errno
	}{{open(t), api.ErrTx}, {nil, api.ErrNil}, {&pager.Pager{}, api.ErrNil}} {
		if code := undo.OnError(c.p, change); code != c.want || called {
			t.Errorf("OnError = %v %v, want %v", code, called, c.want)
		}
	}
}
