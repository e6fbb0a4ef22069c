// Package print: prints: see ../shared/doc/01-print.md.
package print

import (
	"strconv"

	"cornbin/api"
	"cornbin/digits"
)

const (
	begin     = 2166136261
	times     = 16777619
	hexLen    = 8 // digits of a print
	lenDigits = 6 // most digits of a Len that is read
)

// More of a text.
func More(n uint32, s string) uint32 {
	// By bytes: a range over the text itself would go by runes.
	for i := range len(s) {
		n = (n ^ uint32(s[i])) * times
	}
	return n
}

// Of a text.
func Of(s string) uint32 { return More(begin, s) }

// ID of a text.
func ID(s string) api.ID { return api.ID{Print: Of(s), Len: len(s)} }

// Less: is one ahead?
func Less(a, b api.ID) bool {
	if a.Print != b.Print {
		return a.Print < b.Print
	}
	return a.Len < b.Len
}

// Text of an ID.
func Text(id api.ID) string {
	if id.Len < 0 {
		return ""
	}
	return digits.Hex(id.Print) + "-" + strconv.Itoa(id.Len)
}

// Read an ID.
func Read(s string) (api.ID, error) {
	if len(s) <= hexLen || s[hexLen] != '-' {
		return api.ID{}, api.ErrText
	}
	n, isHex := digits.ReadHex(s[:hexLen])
	many, isLen := digits.Read(s[hexLen+1:], lenDigits)
	if !isHex || !isLen {
		return api.ID{}, api.ErrText
	}
	return api.ID{Print: n, Len: many}, nil
}
