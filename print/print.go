// Package print: prints: see ../shared/doc/01-print.md.
package print

import (
	"strconv"

	"cornbin/api"
)

const (
	begin     = 2166136261
	times     = 16777619
	hexLen    = 8 // digits of a print
	lenDigits = 6 // most digits of a Len that is read
	hexDigits = "0123456789abcdef"
)

// More of a text.
func More(n uint32, s string) uint32 {
	// By bytes: a range over the text itself would go by runes.
	for i := range len(s) {
		n = (n ^ uint32(s[i])) * times
	}
	return n
}

// Of a text.
func Of(s string) uint32 { return More(begin, s) }

// ID of a text.
func ID(s string) api.ID { return api.ID{Print: Of(s), Len: len(s)} }

// Less: is one ahead?
func Less(a, b api.ID) bool {
	if a.Print != b.Print {
		return a.Print < b.Print
	}
	return a.Len < b.Len
}

// Text of an ID.
func Text(id api.ID) string {
	if id.Len < 0 {
		return ""
	}
	return hexText(id.Print) + "-" + strconv.Itoa(id.Len)
}

// Read an ID.
func Read(s string) (api.ID, error) {
	if len(s) <= hexLen || s[hexLen] != '-' {
		return api.ID{}, api.ErrText
	}
	n, isHex := readHex(s[:hexLen])
	many, isLen := readLen(s[hexLen+1:])
	if !isHex || !isLen {
		return api.ID{}, api.ErrText
	}
	return api.ID{Print: n, Len: many}, nil
}

func hexText(n uint32) string {
	b := make([]byte, hexLen)
	for i := range b {
		b[hexLen-1-i] = hexDigits[n&15]
		n >>= 4
	}
	return string(b)
}

// strconv.ParseUint would take capital letters too, so digits are read one by one.
func readHex(s string) (uint32, bool) {
	var n uint32
	for i := range len(s) {
		c := s[i]
		switch {
		case '0' <= c && c <= '9':
			n = n<<4 | uint32(c-'0')
		case 'a' <= c && c <= 'f':
			n = n<<4 | uint32(c-'a'+10)
		default:
			return 0, false
		}
	}
	return n, true
}

// strconv.Atoi would take a sign and needless zeros too.
func readLen(s string) (int, bool) {
	if s == "" || len(s) > lenDigits || len(s) > 1 && s[0] == '0' {
		return 0, false
	}
	n := 0
	for i := range len(s) {
		if s[i] < '0' || s[i] > '9' {
			return 0, false
		}
		n = n*10 + int(s[i]-'0')
	}
	return n, true
}
