// Package undo takes back changes of pages that fail.
package undo

import (
	"hindsight/api"
	"hindsight/pager"
)

// OnError makes a change of pages. One that fails may leave its trees damaged, so that it is undone by a savepoint; if there is no room for one, the transaction has some to go back to.
func OnError(p *pager.Pager, change func() api.Errno) api.Errno {
	save, err := p.Save()
	switch err {
	case api.OK:
	case api.ErrFull:
		return change()
	default:
		return err
	}
	err = change()
	if err != api.OK {
		p.Back(save)
	}
	p.Release(save)
	return err
}
