package catalog

import (
	"hindsight/api"
	"hindsight/undo"
)

// store stores a pair.
func (c *Catalog) store(key string, v []byte) api.Errno {
	return undo.OnError(c.pager, func() api.Errno { return c.tree.Put(key, v) })
}

// remove removes the pairs with these keys.
func (c *Catalog) remove(keys []string) api.Errno {
	return undo.OnError(c.pager, func() api.Errno {
		for _, key := range keys {
			if _, err := c.tree.Del(key); err != api.OK {
				return err
			}
		}
		return api.OK
	})
}
