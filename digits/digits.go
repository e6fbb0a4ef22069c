// Package digits: numbers in digits, as the other packages write and read them.
package digits

const (
	hexLen    = 8 // of a number of 32 bits
	hexDigits = "0123456789abcdef"
)

// Hex tells a number in eight hexadecimal digits.
func Hex(n uint32) string {
	b := make([]byte, hexLen)
	for i := range b {
		b[hexLen-1-i] = hexDigits[n&15]
		n >>= 4
	}
	return string(b)
}

// ReadHex reads what Hex tells, and nothing else.
func ReadHex(s string) (uint32, bool) {
	if len(s) != hexLen {
		return 0, false
	}
	var n uint32
	// One by one: strconv.ParseUint would take capital letters too.
	for i := range len(s) {
		c := s[i]
		switch {
		case '0' <= c && c <= '9':
			n = n<<4 | uint32(c-'0')
		case 'a' <= c && c <= 'f':
			n = n<<4 | uint32(c-'a'+10)
		default:
			return 0, false
		}
	}
	return n, true
}

// Are: is a text a number of digits without needless zeros, however many?
func Are(s string) bool {
	if s == "" || len(s) > 1 && s[0] == '0' {
		return false
	}
	for i := range len(s) {
		if s[i] < '0' || s[i] > '9' {
			return false
		}
	}
	return true
}

// Read such a number of at most so many digits (18 of them fit).
func Read(s string, most int) (int, bool) {
	// strconv.Atoi would take a sign and needless zeros too.
	if len(s) > most || !Are(s) {
		return 0, false
	}
	n := 0
	for i := range len(s) {
		n = n*10 + int(s[i]-'0')
	}
	return n, true
}
