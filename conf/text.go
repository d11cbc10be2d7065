package conf

import (
	"strings"

	"waystone/api"
)

// Text tells a configuration as it is written.
func Text(c Conf) string {
	if !Right(c) {
		return ""
	}
	var b strings.Builder
	for i, l := range c {
		if l.Head == api.Top {
			b.WriteString(written(l))
			continue
		}
		if i == 0 || !sameName(c[i-1], l) {
			b.WriteString(headWord(l.Head) + " " + l.Name + " {\n")
		}
		b.WriteString("  " + written(l))
		if i == len(c)-1 || !sameName(l, c[i+1]) {
			b.WriteString("}\n")
		}
	}
	return b.String()
}

func written(l Line) string {
	return l.Leaf + " " + l.Value + ";\n"
}

func headWord(head int) string {
	if head == api.Area {
		return "area"
	}
	return "interface"
}

// Put tells a configuration as bytes. No text of a right one is too long for the byte ahead of it.
func Put(c Conf) ([]byte, api.Errno) {
	if !Right(c) {
		return nil, api.ErrArg
	}
	var b []byte
	for _, l := range c {
		b = append(b, byte(l.Head))
		for _, s := range []string{l.Name, l.Leaf, l.Value} {
			b = append(b, byte(len(s)))
			b = append(b, s...)
		}
	}
	return b, api.OK
}

// Get tells the configuration that was put.
func Get(b []byte) (Conf, api.Errno) {
	var c Conf
	for len(b) > 0 {
		l, rest, ok := getLine(b)
		if !ok {
			return nil, api.ErrShort
		}
		// one line too many is enough to refuse them all
		if len(c) <= api.MaxLines {
			c = append(c, l)
		}
		b = rest
	}
	if !Right(c) {
		return nil, api.ErrForm
	}
	return c, api.OK
}

// getLine tells the first line, whatever stands in it, and the bytes behind it; false: they end too early.
func getLine(b []byte) (Line, []byte, bool) {
	head, rest := int(b[0]), b[1:]
	var texts [3]string
	for i := range texts {
		if len(rest) == 0 || len(rest)-1 < int(rest[0]) {
			return Line{}, nil, false
		}
		n := 1 + int(rest[0])
		texts[i], rest = string(rest[1:n]), rest[n:]
	}
	return Line{Head: head, Name: texts[0], Leaf: texts[1], Value: texts[2]}, rest, true
}
