package packet_test

import (
	"strings"

	"waystone/api"
	"waystone/lsa"
)

// u is the number that bytes are.
func u(b []byte) int {
	n := 0
	for _, c := range b {
		n = n*256 + int(c)
	}
	return n
}

// told tells what Get should tell of bytes, field by field.
func told(b []byte, auth string) api.Errno {
	kind := 0
	if auth != "" {
		kind = 1
	}
	switch {
	case len(b) < 24:
		return api.ErrShort
	case b[0] != 2 || u(b[2:4]) != len(b):
		return api.ErrForm
	case u(b[12:14]) != int(internet(b)):
		return api.ErrSum
	case len(auth) > 8 || u(b[14:16]) != kind || string(b[16:24]) != auth+strings.Repeat("\x00", 8-len(auth)):
		return api.ErrAuth
	}
	if b[1] == 4 {
		if e := toldOfUpdate(b[24:]); e != api.OK {
			return e
		}
	}
	if strings.Contains(auth, "\x00") || b[1] != 4 && !isBody(b[1], b[24:]) {
		return api.ErrForm
	}
	return api.OK
}

func isBody(kind byte, b []byte) bool {
	switch kind {
	case 1:
		return len(b) >= 20 && len(b) <= 100 && len(b)%4 == 0 && b[6] == 2 && u(b[4:6]) >= 1 && u(b[8:12]) >= 1 && u(b[8:12]) <= 65535
	case 2:
		return len(b) >= 8 && u(b[:3]) == 0x05DC02 && b[3] <= 7 && areHeads(b[8:])
	case 3:
		for at := 0; at+12 <= len(b); at += 12 {
			if u(b[at:at+4]) > 255 {
				return false
			}
		}
		return len(b) <= 240 && len(b)%12 == 0
	case 5:
		return areHeads(b)
	}
	return false
}

func areHeads(b []byte) bool {
	for at := 0; at+20 <= len(b); at += 20 {
		if b[at+2] != 2 {
			return false
		}
	}
	return len(b) <= 400 && len(b)%20 == 0
}

func toldOfUpdate(b []byte) api.Errno {
	if len(b) < 4 || u(b[:4]) > 20 {
		return api.ErrForm
	}
	count := u(b[:4])
	b = b[4:]
	for ; count > 0; count-- {
		if len(b) < 20 || u(b[18:20]) < 20 || u(b[18:20]) > len(b) {
			return api.ErrForm
		}
		if _, e := lsa.Get(b[:u(b[18:20])]); e != api.OK {
			return e
		}
		b = b[u(b[18:20]):]
	}
	if len(b) > 0 {
		return api.ErrForm
	}
	return api.OK
}
