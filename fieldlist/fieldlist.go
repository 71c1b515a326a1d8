// Package fieldlist makes single fields, and reads those of some bytes one by one: what the layers that lay things down as fields
// have in common.
package fieldlist

import (
	"qanat/api"
)

// Number is a field of the number n.
func Number(n int64) api.Field {
	return api.Field{Kind: api.FieldInt, N: n}
}

// Yes is a field of 1 for true, of 0 for false.
func Yes(b bool) api.Field {
	if b {
		return Number(1)
	}
	return Number(0)
}

// Text is a field of the text s.
func Text(s string) api.Field {
	return api.Field{Kind: api.FieldText, S: s}
}
