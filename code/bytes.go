package code

import "taffrail/api"

// Bytes that stand ahead of what a kind names.
const (
	kindBytes   = 1
	numberBytes = 2
)

// write what a request's kind names, whether it is right or not.
func write(a api.Ask) string {
	n := spread(a)
	out := put(nil, a.Kind, kindBytes)
	out = put(out, a.Number, numberBytes)
	for _, p := range named(a.Kind) {
		out = put(out, n[p], parts[p].bytes)
	}
	return string(out)
}

// read what the first byte, a kind, names, whether it is right or not: where bytes are missing, they are as if there were fewer of a number.
func read(s string) api.Ask {
	next := func(bytes int) int {
		bytes = min(bytes, len(s))
		n := whole(s[:bytes])
		s = s[bytes:]
		return n
	}
	kind := next(kindBytes)
	number := next(numberBytes)
	var n numbers
	for _, p := range named(kind) {
		n[p] = next(parts[p].bytes)
	}
	return gather(kind, number, n)
}

// put a number behind all, in so many bytes, the greatest first.
func put(out []byte, n, bytes int) []byte {
	for i := range bytes {
		out = append(out, byte(n>>(8*(bytes-1-i))))
	}
	return out
}

// whole number of some bytes, the greatest first.
func whole(s string) int {
	n := 0
	for i := range len(s) {
		n = n<<8 | int(s[i])
	}
	return n
}
