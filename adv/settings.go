package adv

import (
	"slices"

	"waystone/api"
	"waystone/conf"
	"waystone/schema"
)

// Setting is an interface's: its area, its address, its mask, its cost, its ticks, its priority, whether it is of two alone, its key.
type Setting struct {
	Area, Addr, Mask uint32
	Cost             int
	Hello, Dead      int
	Again, Priority  int
	Two              bool
	Auth             string
}

// Settings tells what an interface is, set or not.
func Settings(c conf.Conf, name string) (Setting, api.Errno) {
	if !isUsable(c) {
		return Setting{}, api.ErrRule
	}
	if !slices.Contains(conf.Names(c, api.Interface), name) {
		return Setting{}, api.ErrNone
	}
	return settings(c, name), api.OK
}

// settings is Settings of an interface of a configuration with which nothing is wrong: each value can be read. Its own lines are enough, and all that are handed to conf.Value are looked at each time.
func settings(c conf.Conf, name string) Setting {
	own := slices.DeleteFunc(slices.Clone(c), func(l conf.Line) bool { return l.Head != api.Interface || l.Name != name })
	value := func(leaf string) string { return conf.Value(own, api.Interface, name, leaf) }
	number := func(leaf string) int {
		n, _ := schema.Decimal(value(leaf))
		return n
	}
	area, _ := schema.Addr(value("area"))
	addr, length, _ := schema.Net(value("address"))
	return Setting{
		Area:     area,
		Addr:     addr,
		Mask:     ^uint32(0) << (32 - length),
		Cost:     number("cost"),
		Hello:    number("hello"),
		Dead:     number("dead"),
		Again:    number("retransmit"),
		Priority: number("priority"),
		Two:      value("network") == "point-to-point",
		Auth:     value("auth"),
	}
}

// Id tells the router's number, 0 if it isn't set.
func Id(c conf.Conf) uint32 {
	id, _ := schema.Addr(conf.Value(c, api.Top, "", "router-id"))
	return id
}
