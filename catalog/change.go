package catalog

import (
	"hindsight/api"
)

// store stores a pair.
func (c *Catalog) store(key string, v []byte) api.Errno {
	return c.change(func() api.Errno { return c.tree.Put(key, v) })
}

// remove removes the pairs with these keys.
func (c *Catalog) remove(keys []string) api.Errno {
	return c.change(func() api.Errno {
		for _, key := range keys {
			if _, err := c.tree.Del(key); err != api.OK {
				return err
			}
		}
		return api.OK
	})
}

// change changes the tree. A change that fails may damage a tree, so that it is undone by a savepoint; if there is no room for one, the transaction has some to go back to.
func (c *Catalog) change(do func() api.Errno) api.Errno {
	save, err := c.pager.Save()
	switch err {
	case api.OK:
	case api.ErrFull:
		return do()
	default:
		return err
	}
	err = do()
	if err != api.OK {
		c.pager.Back(save)
	}
	c.pager.Release(save)
	return err
}
