// Package items writes items as bytes and reads them back (P3).
package items

// The first byte of an item tells its kind and, counted from the kind's base,
// the length of its body; a length above shortMost stands in bytes of its own.
const (
	bytesBase = 0x80
	listBase  = 0xc0
	shortMost = 55
)

// A single byte below bytesBase is its own head: with a head before it, it
// would have two forms.
func standsForItself(body string) bool {
	return len(body) == 1 && body[0] < bytesBase
}
