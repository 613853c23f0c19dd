package addr

import (
	"math"
	"strconv"
	"strings"

	"signpost/api"
	"signpost/octet"
)

// marks has for each byte of a host, in their order, what stands behind it in a text.
const marks = "...:"

// Text tells an address as a text.
func Text(a api.Addr) string {
	var out []byte
	for i, b := range octet.Put(nil, uint64(a.Host), hostWidth) {
		out = strconv.AppendUint(out, uint64(b), 10)
		out = append(out, marks[i])
	}
	return string(strconv.AppendUint(out, uint64(a.Port), 10))
}

// Parse tells the address of a text.
func Parse(s string) (api.Addr, api.Errno) {
	var host uint64
	rest := s
	for i := range hostWidth {
		head, tail, found := strings.Cut(rest, marks[i:i+1])
		b, ok := number(head, math.MaxUint8)
		if !found || !ok {
			return api.Addr{}, api.ErrForm
		}
		host = host<<8 | b
		rest = tail
	}
	port, ok := number(rest, math.MaxUint16)
	a := api.Addr{Host: uint32(host), Port: uint16(port)}
	if !ok || !Good(a) {
		return api.Addr{}, api.ErrForm
	}
	return a, api.OK
}

// number tells the number, at most most, that is s as Text writes it. No number of a text has more than five digits.
func number(s string, most uint64) (uint64, bool) {
	var n uint64
	ok := len(s) == 1 || !strings.HasPrefix(s, "0")
	digit := func(fromEnd int) {
		d := s[len(s)-fromEnd] - '0' // what is below '0' wraps round to more than 9
		ok = ok && d <= 9
		n = 10*n + uint64(d)
	}
	switch len(s) {
	case 5:
		digit(5)
		fallthrough
	case 4:
		digit(4)
		fallthrough
	case 3:
		digit(3)
		fallthrough
	case 2:
		digit(2)
		fallthrough
	case 1:
		digit(1)
	default:
		ok = false
	}
	return n, ok && n <= most
}
