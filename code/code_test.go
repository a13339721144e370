package code_test

import (
	"encoding/binary"
	"fmt"
	"math/rand/v2"
	"strings"
	"testing"

	"taffrail/api"
	"taffrail/code"
)

// decodes holds what Decode says; and of a request, that it has just these bytes.
func decodes(t *testing.T, s string, want api.Ask, e api.Errno) {
	t.Helper()
	if a, f := code.Decode(s); a != want || f != e {
		t.Errorf("Decode of %q is %v, %d, not %v, %d", s, a, f, want, e)
	}
	if e != api.OK {
		return
	}
	if again, f := code.Encode(want); again != s || f != api.OK {
		t.Errorf("Encode of %v is %q, %d, not %q", want, again, f, s)
	}
}

// some: requests of each kind, with their bytes.
func some() map[string]api.Ask {
	return map[string]api.Ask{
		"\x01\x12\x34\x01\x02\x03\x04\x05\x06\x07\x01\x08\x09": {Number: 0x1234, Kind: 1, Id: 0x010203, Guests: 4, Level: true, Cabin: 5, Span: api.Span{From: 6, To: 7}, Until: 0x0809},
		"\x01\x00\x01\x00\x00\x00\x00\x00\x00\x00\x00\x00\x00": {Number: 1, Kind: 1},
		"\x01\xff\xff\x0f\x42\x3f\xff\xff\xff\xff\x01\xff\xff": {Number: 65535, Kind: 1, Id: 999999, Guests: 255, Level: true, Cabin: 255, Span: api.Span{From: 255, To: 255}, Until: 65535},
		"\x02\x12\x34\x01\x02\x03\x04\x05\x01\x08\x09":         {Number: 0x1234, Kind: 2, Id: 0x010203, Guests: 4, Level: true, Category: 5, Until: 0x0809},
		"\x02\x01\x00\x00\x01\x00\x00\x01\x00\x01\x00":         {Number: 256, Kind: 2, Id: 256, Category: 1, Until: 256},
		"\x03\x12\x34\x01\x02\x03":                             {Number: 0x1234, Kind: 3, Id: 0x010203},
		"\x03\x00\xff\x00\x00\x00":                             {Number: 255, Kind: 3},
		"\x04\x12\x34\x01\x02\x03\x04\x05\x06\x07":             {Number: 0x1234, Kind: 4, Id: 0x010203, Amount: 0x04050607},
		"\x04\x00\x01\x00\x00\x01\x05\xf5\xe1\x00":             {Number: 1, Kind: 4, Id: 1, Amount: 100000000},
		"\x05\x12\x34\x01\x02\x03":                             {Number: 0x1234, Kind: 5, Id: 0x010203},
		"\x06\x12\x34\x01\x02\x03\x04":                         {Number: 0x1234, Kind: 6, Id: 0x010203, Cabin: 4},
		"\x07\x12\x34\x01\x02":                                 {Number: 0x1234, Kind: 7, Until: 0x0102},
		"\x07\x00\x01\xff\xff":                                 {Number: 1, Kind: 7, Until: 65535},
		"\x08\x12\x34":                                         {Number: 0x1234, Kind: 8},
		"\x08\x00\x01":                                         {Number: 1, Kind: 8},
		"\x08\xff\xff":                                         {Number: 65535, Kind: 8},
	}
}

func TestL2Some(t *testing.T) {
	for s, a := range some() {
		decodes(t, s, a, api.OK)
	}
}

// TestL2Pieces: no piece of a request is one, nor is a request with something behind it.
func TestL2Pieces(t *testing.T) {
	for s := range some() {
		for n := range len(s) {
			decodes(t, s[:n], api.Ask{}, api.ErrForm)
		}
		for _, more := range []string{"\x00", "\x01", s, strings.Repeat("\x00", 1<<16)} {
			decodes(t, s+more, api.Ask{}, api.ErrForm)
		}
	}
}

func TestL2Wrong(t *testing.T) {
	for _, c := range []struct {
		name, s string
		want    api.Errno
	}{
		{"nothing", "", api.ErrForm},
		{"no kind", "\x00\x00\x01", api.ErrForm},
		{"no such kind", "\x09\x00\x01", api.ErrForm},
		{"no such kind, with an Id", "\x09\x00\x01\x00\x00\x01", api.ErrForm},
		{"the last kind", "\xff\xff\xff", api.ErrForm},
		{"Number 0", "\x08\x00\x00", api.ErrRange},
		{"Number 0, with all else", "\x01\x00\x00\x00\x00\x01\x00\x00\x00\x00\x00\x00\x00", api.ErrRange},
		{"Id too great", "\x03\x00\x01\x0f\x42\x40", api.ErrRange},
		{"Id greatest", "\x05\x00\x01\xff\xff\xff", api.ErrRange},
		{"Amount too great", "\x04\x00\x01\x00\x00\x01\x05\xf5\xe1\x01", api.ErrRange},
		{"Amount with its first bit", "\x04\x00\x01\x00\x00\x01\x80\x00\x00\x00", api.ErrRange},
		{"Amount greatest", "\x04\x00\x01\x00\x00\x01\xff\xff\xff\xff", api.ErrRange},
		{"Level 2", "\x01\x00\x01\x00\x00\x00\x00\x00\x00\x00\x02\x00\x00", api.ErrForm},
		{"Level 2 of a promise", "\x02\x00\x01\x00\x00\x00\x00\x00\x02\x00\x00", api.ErrForm},
		{"Level 255 of a promise", "\x02\x00\x01\x00\x00\x00\x00\x00\xff\x00\x00", api.ErrForm},
		{"Level 2, ahead of Number 0", "\x02\x00\x00\x00\x00\x00\x00\x00\x02\x00\x00", api.ErrForm},
		{"Level 2, ahead of an Id too great", "\x02\x00\x01\xff\xff\xff\x00\x00\x02\x00\x00", api.ErrForm},
		{"a byte is missing, ahead of Number 0", "\x03\x00\x00\x00\x00", api.ErrForm},
		{"a byte too many, ahead of an Id too great", "\x03\x00\x01\xff\xff\xff\x00", api.ErrForm},
		{"signs", "\u00e4\u20ac", api.ErrForm},
		{"many", strings.Repeat("\x01", 1<<20), api.ErrForm},
	} {
		if a, e := code.Decode(c.s); a != (api.Ask{}) || e != c.want {
			t.Errorf("%s: %v, %d, not %d", c.name, a, e, c.want)
		}
	}
}

// TestL2Short: of up to three bytes only Close is a request.
func TestL2Short(t *testing.T) {
	for first := range 256 {
		decodes(t, string([]byte{byte(first)}), api.Ask{}, api.ErrForm)
		for _, n := range []int{0, 1, 255, 256, 65535} {
			s := []byte{byte(first), byte(n >> 8), byte(n)}
			decodes(t, string(s[:2]), api.Ask{}, api.ErrForm)
			switch {
			case first != api.AskClose:
				decodes(t, string(s), api.Ask{}, api.ErrForm)
			case n == 0:
				decodes(t, string(s), api.Ask{}, api.ErrRange)
			default:
				decodes(t, string(s), api.Ask{Number: n, Kind: first}, api.OK)
			}
		}
	}
}

// told by the words of the document: the bytes of a request that is right.
func told(a api.Ask) string {
	level := byte(0)
	if a.Level {
		level = 1
	}
	s := binary.BigEndian.AppendUint16([]byte{byte(a.Kind)}, uint16(a.Number))
	id := binary.BigEndian.AppendUint32(nil, uint32(a.Id))[1:]
	if a.Kind <= api.AskMove {
		s = append(s, id...)
	}
	switch a.Kind {
	case api.AskNamed:
		s = append(s, byte(a.Guests), byte(a.Cabin), byte(a.Span.From), byte(a.Span.To), level)
	case api.AskPromise:
		s = append(s, byte(a.Guests), byte(a.Category), level)
	case api.AskPay:
		s = binary.BigEndian.AppendUint32(s, uint32(a.Amount))
	case api.AskMove:
		s = append(s, byte(a.Cabin))
	}
	if a.Kind == api.AskNamed || a.Kind == api.AskPromise || a.Kind == api.AskDay {
		s = binary.BigEndian.AppendUint16(s, uint16(a.Until))
	}
	return string(s)
}

// drawn request that is right.
func drawn(r *rand.Rand) api.Ask {
	a := api.Ask{Number: 1 + r.IntN(65535), Kind: 1 + r.IntN(8)}
	for _, p := range parts() {
		if p.isNamed(a.Kind) && r.IntN(4) > 0 {
			p.set(&a, r.IntN(p.most+1))
		}
	}
	a.Level = a.Kind <= api.AskPromise && r.IntN(2) == 0
	return a
}

// TestL3There: what is encoded is decoded as it was.
func TestL3There(t *testing.T) {
	r := rand.New(rand.NewPCG(1, 2))
	for range 20000 {
		a := drawn(r)
		decodes(t, told(a), a, api.OK)
	}
}

// TestL3Back: of any bytes Decode says either what is wrong, or a request that has just these.
func TestL3Back(t *testing.T) {
	r := rand.New(rand.NewPCG(3, 4))
	met := map[api.Errno]int{}
	for range 50000 {
		s := []byte(told(drawn(r)))
		for range 1 + r.IntN(2) {
			s[r.IntN(len(s))] = byte(r.IntN(256) >> r.IntN(9))
		}
		a, e := code.Decode(string(s))
		met[e]++
		switch {
		case e == api.OK && (code.Check(a) != api.OK || told(a) != string(s)):
			t.Fatalf("Decode of %q is %v", s, a)
		case e != api.OK && a != api.Ask{}:
			t.Fatalf("Decode of %q is %d, with %v", s, e, a)
		}
	}
	if met[api.OK] < 1000 || met[api.ErrForm] < 1000 || met[api.ErrRange] < 1000 || len(met) != 3 {
		t.Errorf("it said %v", met)
	}
}

// TestL3Other: no two requests have the same bytes.
func TestL3Other(t *testing.T) {
	r := rand.New(rand.NewPCG(5, 6))
	met := map[string]api.Ask{}
	for range 20000 {
		a := drawn(r)
		a.Number, a.Id, a.Until = 1, a.Id%3, a.Until%3
		s, e := code.Encode(a)
		if was, ok := met[s]; e != api.OK || ok && was != a {
			t.Fatalf("%q, %d, is %v and %v", s, e, was, a)
		}
		met[s] = a
	}
}

// TestP3: the same each time, whatever was asked between.
func TestP3(t *testing.T) {
	for range 50 {
		for s, a := range some() {
			checks(t, "again", a, api.OK)
			decodes(t, s, a, api.OK)
			decodes(t, s+"\x00", api.Ask{}, api.ErrForm)
			checks(t, fmt.Sprint("wrong, ", s), api.Ask{Kind: a.Kind}, api.ErrRange)
		}
	}
}
