package wire

import "gemel/api"

const hex = "0123456789abcdef"

// Digits are the digits of bytes, two for each.
func Digits(b []byte) string {
	out := make([]byte, 0, 2*len(b))
	for _, x := range b {
		out = append(out, hex[x>>4], hex[x&15])
	}
	return string(out)
}

// worth is what a digit stands for, and whether it is one of that base.
func worth(c rune, base uint64) (uint64, bool) {
	switch {
	case c >= '0' && c <= '9':
		return uint64(c - '0'), true
	case base == 16 && c >= 'a' && c <= 'f':
		return uint64(c-'a') + 10, true
	}
	return 0, false
}

// OfDigits are the bytes of digits.
func OfDigits(s string) ([]byte, api.Errno) {
	var out []byte
	var high, n uint64
	var ok, half bool
	for _, c := range s {
		if n, ok = worth(c, 16); !ok {
			goto wrong
		}
		if half {
			out = append(out, byte(high<<4|n))
		}
		high, half = n, !half
	}
	if !half {
		return out, api.OK
	}
wrong:
	return nil, api.ErrBytes
}

// Decimal is the number of decimal digits, if it is not above most.
func Decimal(s string, most uint64) (uint64, api.Errno) {
	var sum, n uint64
	var ok, above bool
	if s == "" || len(s) > 1 && s[0] == '0' {
		goto wrong
	}
	for _, c := range s {
		if n, ok = worth(c, 10); !ok {
			goto wrong
		}
		// What is too great is still read to its end: a wrong character behind it is told ahead of the bound.
		if above || n > most || sum > (most-n)/10 {
			above = true
			continue
		}
		sum = 10*sum + n
	}
	if above {
		return 0, api.ErrRange
	}
	return sum, api.OK
wrong:
	return 0, api.ErrBytes
}
