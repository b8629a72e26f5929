package text

import (
	"math"
	"strconv"
	"strings"

	"shard/api"
)

// Number reads a number, and tells the place of the first fault.
func Number(s string) (uint64, int, api.Errno) {
	switch {
	case s == "":
		return 0, 0, api.ErrDigit
	case strings.HasPrefix(s, "0x"):
		return readHex(s)
	case s[0] == '0' && len(s) > 1:
		return 0, 1, api.ErrDigit
	}
	return readDecimal(s)
}

func readDecimal(s string) (uint64, int, api.Errno) {
	var n uint64
	for at := range len(s) {
		if s[at] < '0' || s[at] > '9' {
			return 0, at, api.ErrDigit
		}
		digit := uint64(s[at] - '0')
		if n > (math.MaxUint64-digit)/10 {
			return 0, at, api.ErrLarge
		}
		n = n*10 + digit
	}
	return n, 0, api.OK
}

// readHex reads the form that begins with 0x.
func readHex(s string) (uint64, int, api.Errno) {
	const head, most = len("0x"), 16
	if len(s) == head {
		return 0, head, api.ErrDigit
	}
	var n uint64
	for at := head; at < len(s); at++ {
		digit, ok := hexDigit(s[at])
		if !ok {
			return 0, at, api.ErrDigit
		}
		if at == head+most {
			return 0, at, api.ErrLarge
		}
		n = n<<4 | uint64(digit)
	}
	return n, 0, api.OK
}

// hexDigit gives the number that a hexadecimal digit stands for, and tells whether the byte is one.
func hexDigit(b byte) (byte, bool) {
	switch {
	case '0' <= b && b <= '9':
		return b - '0', true
	case 'a' <= b && b <= 'f':
		return b - 'a' + 10, true
	case 'A' <= b && b <= 'F':
		return b - 'A' + 10, true
	}
	return 0, false
}

// Digits writes a number: form 0 decimal, 1 in 0x form, 2 in 0x form with 16 digits.
func Digits(n uint64, form int) (string, api.Errno) {
	switch form {
	case 0:
		// strconv hands out pieces of one text for small numbers; an answer is memory of its own.
		return strings.Clone(strconv.FormatUint(n, 10)), api.OK
	case 1:
		return "0x" + strconv.FormatUint(n, 16), api.OK
	case 2:
		digits := strconv.FormatUint(n, 16)
		return "0x" + strings.Repeat("0", 16-len(digits)) + digits, api.OK
	}
	return "", api.ErrArg
}
