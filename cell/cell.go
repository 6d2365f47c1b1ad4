// Package cell is layer 2: the values of SQL, their arithmetic, logic and order.
package cell

import (
	"hindsight/api"
)

// null is the value that most functions answer where an argument is unknown.
func null() api.Value { return api.Value{} }

// whole is the value of an integer.
func whole(n int64) api.Value { return api.Value{Kind: api.Int, Int: n} }

// Right reports whether v is valid.
func Right(v api.Value) bool {
	switch v.Kind {
	case api.Null:
		return v == null()
	case api.Int:
		return v == whole(v.Int)
	case api.Text, api.Blob:
		return v == api.Value{Kind: v.Kind, Text: v.Text}
	}
	return false
}

// To is the Go value of v.
func To(v api.Value) (any, api.Errno) {
	if !Right(v) {
		return nil, api.ErrForm
	}
	switch v.Kind {
	case api.Int:
		return v.Int, api.OK
	case api.Text:
		return v.Text, api.OK
	case api.Blob:
		return []byte(v.Text), api.OK
	}
	return nil, api.OK
}

// From is the value with the Go value x, and whether there is one.
func From(x any) (api.Value, bool) {
	switch y := x.(type) {
	case nil:
		return null(), true
	case int64:
		return whole(y), true
	case string:
		return api.Value{Kind: api.Text, Text: y}, true
	case []byte:
		return api.Value{Kind: api.Blob, Text: string(y)}, true
	}
	return null(), false
}

// Number is x if it is an int64, and whether it is.
func Number(x any) (int64, bool) {
	n, ok := x.(int64)
	return n, ok
}

// MustNumber is x, which the caller knows to be an int64.
func MustNumber(x any) int64 { return x.(int64) }

// Bool is 1 or 0.
func Bool(b bool) api.Value {
	if b {
		return whole(1)
	}
	return whole(0)
}

// Join is a followed by b, two texts or two blobs.
func Join(a, b api.Value) (api.Value, api.Errno) {
	if !Right(a) || !Right(b) {
		return null(), api.ErrForm
	}
	if a == null() || b == null() {
		return null(), api.OK
	}
	if a.Kind != b.Kind || a.Kind == api.Int {
		return null(), api.ErrType
	}
	return api.Value{Kind: a.Kind, Text: a.Text + b.Text}, api.OK
}
