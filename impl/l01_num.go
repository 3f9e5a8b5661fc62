package impl

import (
	"strconv"
	"strings"
)

const MaxVar = 562949953421311

// A width of 7 bytes is the greatest whose numbers all fit into an int.
const maxWidth = 7

const maxDigits = 9

const hexDigits = "0123456789abcdef"

func widthOk(width int) bool {
	return width >= 1 && width <= maxWidth
}

// Fixed returns n as width bytes, most significant byte first, or the empty
// string if n does not fit or the width is out of range.
func Fixed(n int, width int) string {
	if !widthOk(width) || n < 0 || n>>(8*width) != 0 {
		return ""
	}
	out := make([]byte, width)
	for i := width - 1; i >= 0; i-- {
		out[i] = byte(n)
		n >>= 8
	}
	return string(out)
}

// ReadFixed returns the number in the first width bytes of s. Bytes after them
// are left to the caller.
func ReadFixed(s string, width int) (int, bool) {
	if !widthOk(width) || len(s) < width {
		return 0, false
	}
	n := 0
	for i := 0; i < width; i++ {
		n = n<<8 | int(s[i])
	}
	return n, true
}

// Var returns the shortest varint of n, or the empty string if n is out of
// range.
func Var(n int) string {
	if n < 0 || n > MaxVar {
		return ""
	}
	var out []byte
	for n >= 128 {
		out = append(out, byte(n&127)|128)
		n >>= 7
	}
	return string(append(out, byte(n)))
}

// ReadVar returns the number whose varint starts s, and the length of the
// varint. No varint has length 0, so 0 says that s starts with none.
func ReadVar(s string) (int, int) {
	size := varSize(s)
	n := 0
	for i := size - 1; i >= 0; i-- {
		n = n<<7 | int(s[i]&127)
	}
	// Encoding again rejects a needlessly long varint, and also size 0, since
	// no varint is empty.
	if Var(n) != s[:size] {
		return 0, 0
	}
	return n, size
}

// varSize returns the length of s up to the first byte that ends a varint, or
// 0 if none of the bytes that a varint can have is one.
func varSize(s string) int {
	longest := len(Var(MaxVar))
	for i := 0; i < len(s) && i < longest; i++ {
		if s[i] < 128 {
			return i + 1
		}
	}
	return 0
}

// Hex returns two lowercase hexadecimal digits for each byte of s.
func Hex(s string) string {
	out := make([]byte, 0, 2*len(s))
	for i := 0; i < len(s); i++ {
		out = append(out, hexDigits[s[i]>>4], hexDigits[s[i]&15])
	}
	return string(out)
}

// Unhex returns the string of which s is the Hex.
func Unhex(s string) (string, bool) {
	if len(s)%2 != 0 {
		return "", false
	}
	out := make([]byte, 0, len(s)/2)
	for i := 0; i < len(s); i += 2 {
		high := strings.IndexByte(hexDigits, s[i])
		low := strings.IndexByte(hexDigits, s[i+1])
		if high < 0 || low < 0 {
			return "", false
		}
		out = append(out, byte(high<<4|low))
	}
	return string(out), true
}

// Dec returns n in decimal.
func Dec(n int) string {
	return strconv.Itoa(n)
}

// ReadDec returns the number of at most nine digits of which s is the Dec.
func ReadDec(s string) (int, bool) {
	if len(strings.TrimPrefix(s, "-")) > maxDigits {
		return 0, false
	}
	n, err := strconv.Atoi(s)
	// Atoi also accepts a plus sign, leading zeros and -0.
	if err != nil || Dec(n) != s {
		return 0, false
	}
	return n, true
}
