package nat

import (
	"strings"

	"primrose/api"
)

// Nine digits are the most that always fit into a limb.
const (
	groupDigits = 9
	groupSize   = 1000000000
)

// Text returns the decimal digits of a, without leading zeros (A9).
func Text(a []uint32) string {
	rest := Plain(a)
	if len(rest) == 0 {
		return "0"
	}
	var groups []uint32
	for len(rest) > 0 {
		groups = append(groups, divideInPlace(rest, groupSize))
		rest = trim(rest)
	}
	text := make([]byte, groupDigits*len(groups))
	for i, group := range groups {
		end := len(text) - groupDigits*i
		writeGroup(text[end-groupDigits:end], group)
	}
	return strings.TrimLeft(string(text), "0")
}

// writeGroup fills text with the digits of group, with leading zeros.
func writeGroup(text []byte, group uint32) {
	for k := range len(text) {
		text[len(text)-1-k] = byte('0' + group%10)
		group /= 10
	}
}

// Parse returns the number whose text is s; ErrText if there is none; or
// ErrLong if s has more than MaxDigits digits (A10).
func Parse(s string) ([]uint32, api.Errno) {
	if !isNumeral(s) {
		return nil, api.ErrText
	}
	if len(s) > api.MaxDigits {
		return nil, api.ErrLong
	}
	var a []uint32
	group, size := uint32(0), uint32(1)
	for i := range len(s) {
		group = group*10 + uint32(s[i]-'0')
		size *= 10
		if (len(s)-1-i)%groupDigits == 0 {
			a = timesPlus(a, size, group)
			group, size = 0, 1
		}
	}
	return trim(a), api.OK
}

func isNumeral(s string) bool {
	if s == "" || s[0] == '0' && s != "0" {
		return false
	}
	for i := range len(s) {
		if s[i] < '0' || s[i] > '9' {
			return false
		}
	}
	return true
}

// timesPlus multiplies a in place and adds a limb; it appends the carry.
func timesPlus(a []uint32, factor, plus uint32) []uint32 {
	carry := uint64(plus)
	for i := range len(a) {
		carry += uint64(a[i]) * uint64(factor)
		a[i] = uint32(carry)
		carry >>= limbBits
	}
	if carry > 0 {
		a = append(a, uint32(carry))
	}
	return a
}
