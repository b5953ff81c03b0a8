// Package decimal reads decimal numbers without superfluous leading zeros, which several text formats share.
package decimal

// End returns the index behind the run of digits that starts at an index of s.
func End(s string, at int) int {
	for at < len(s) && s[at] >= '0' && s[at] <= '9' {
		at++
	}
	return at
}

// Read returns the number from 0 to most whose digits are the whole run that starts at an index of s, and the index behind it.
func Read(s string, at, most int) (int, int, bool) {
	end := End(s, at)
	if end == at || s[at] == '0' && end > at+1 {
		return 0, end, false
	}
	n := 0
	for _, c := range []byte(s[at:end]) {
		digit := int(c - '0')
		if n > (most-digit)/10 || digit > most {
			return 0, end, false
		}
		n = 10*n + digit
	}
	return n, end, true
}

// ReadSigned is like Read, for numbers from -most to most; negative ones have a leading minus sign.
func ReadSigned(s string, at, most int) (int, int, bool) {
	if at >= len(s) || s[at] != '-' {
		return Read(s, at, most)
	}
	n, end, ok := Read(s, at+1, most)
	return -n, end, ok && n != 0
}

// Parse returns the number from 0 to most whose text is s.
func Parse(s string, most int) (int, bool) {
	n, end, ok := Read(s, 0, most)
	if !ok || end != len(s) {
		return 0, false
	}
	return n, true
}

// ParseSigned returns the number from -most to most whose text is s.
func ParseSigned(s string, most int) (int, bool) {
	n, end, ok := ReadSigned(s, 0, most)
	if !ok || end != len(s) {
		return 0, false
	}
	return n, true
}
