package adv_test

import (
	"fmt"
	"testing"

	"waystone/adv"
	"waystone/api"
	"waystone/conf"
)

// P15.1: each value as it is set, or as it is where it isn't.
func TestSettings(t *testing.T) {
	c := read(t, us+iface("a", "10.1.2.3/20")+
		iface("b", "192.168.255.254/32", "area 1.2.3.4", "cost 65535", "hello 7", "dead 9", "retransmit 3600", "priority 255", "network point-to-point", "auth sesame")+
		iface("c", "10.2.0.0/24", "network broadcast", "priority 0", "cost 1", "hello 1", "dead 65535", "retransmit 1", "auth x"))
	for name, want := range map[string]adv.Setting{
		"a": {Addr: addr("10.1.2.3"), Mask: addr("255.255.240.0"), Cost: 10, Hello: 10, Dead: 40, Again: 5, Priority: 1},
		"b": {Area: addr("1.2.3.4"), Addr: addr("192.168.255.254"), Mask: addr("255.255.255.255"), Cost: 65535, Hello: 7, Dead: 9, Again: 3600, Priority: 255, Two: true, Auth: "sesame"},
		"c": {Addr: addr("10.2.0.0"), Mask: addr("255.255.255.0"), Cost: 1, Hello: 1, Dead: 65535, Again: 1, Auth: "x"},
	} {
		if got, e := adv.Settings(c, name); e != api.OK || got != want {
			t.Errorf("%s: %+v, error %d, want %+v", name, got, e, want)
		}
	}
}

// P15.1
func TestMasks(t *testing.T) {
	for length := 1; length <= 32; length++ {
		var want uint32
		for bit := range length {
			want |= 1 << (31 - bit)
		}
		c := read(t, us+iface("a", fmt.Sprintf("10.1.2.3/%d", length)))
		if got, e := adv.Settings(c, "a"); e != api.OK || got.Mask != want || got.Addr != addr("10.1.2.3") {
			t.Errorf("/%d: %+v, error %d", length, got, e)
		}
	}
}

// P15.1, P1
func TestSettingsThatCantBe(t *testing.T) {
	right := read(t, us+iface("a", "10.0.0.1/24"))
	for _, name := range []string{"", "b", "A", "a ", "aa", "a/", "0.0.0.0", "router-id"} {
		wantNoSetting(t, right, name, api.ErrNone)
	}
	wantNoSetting(t, nil, "a", api.ErrNone)
	wantNoSetting(t, read(t, us), "", api.ErrNone)
	for _, c := range wrongs(t) {
		for _, name := range []string{"a", "b", ""} {
			wantNoSetting(t, c, name, api.ErrRule)
		}
	}
}

func wantNoSetting(t *testing.T, c conf.Conf, name string, want api.Errno) {
	t.Helper()
	if got, e := adv.Settings(c, name); e != want || got != (adv.Setting{}) {
		t.Errorf("%v, %q: %+v, error %d, want error %d", c, name, got, e, want)
	}
}

// wrongs are configurations of an interface a that can't be used: one of each fault, and such as aren't right.
func wrongs(t *testing.T) []conf.Conf {
	var l []conf.Conf
	for _, text := range []string{
		iface("a", "10.0.0.1/24"), "router-id 0.0.0.0;" + iface("a", "10.0.0.1/24"),
		us + "interface a { address 10.0.0.1/24; }", us + "interface a { area 0.0.0.0; }",
		us + iface("a", "10.0.0.1/24") + iface("b", "10.0.0.2/24"),
		us + iface("a", "10.0.0.1/24", "dead 10"),
		us + iface("a", "10.0.0.1/24") + "area 0.0.0.0 { type stub; }",
		us + iface("a", "10.0.0.1/24") + "area 0.0.0.1 { cost 2; }",
		us + iface("a", "10.0.0.1/24", "area 0.0.0.1") + iface("b", "10.0.1.1/24", "area 0.0.0.2"),
		us + nine(),
	} {
		l = append(l, read(t, text))
	}
	line := conf.Line{Leaf: "router-id", Value: "5.5.5.5"}
	return append(l, conf.Conf{line, line}, conf.Conf{{}}, conf.Conf{{Head: 3, Name: "a", Leaf: "cost", Value: "1"}}, make(conf.Conf, 100))
}

// nine are one interface more than there may be.
func nine() string {
	text := ""
	for i := range 9 {
		text += iface(string(rune('a'+i)), fmt.Sprintf("10.0.%d.1/24", i))
	}
	return text
}

// P15.1, P1
func TestId(t *testing.T) {
	for text, want := range map[string]uint32{
		"": 0, "router-id 0.0.0.0;": 0, "router-id 1.2.3.4;": 0x01020304, "router-id 255.255.255.255;": 0xFFFFFFFF,
		// where it is asked for, a configuration need not be one that can be used
		us + "interface a { cost 5; }": 0x05050505, "interface a { cost 5; }": 0,
	} {
		if got := adv.Id(read(t, text)); got != want {
			t.Errorf("%q: %x, want %x", text, got, want)
		}
	}
	line := conf.Line{Leaf: "router-id", Value: "5.5.5.5"}
	for _, c := range []conf.Conf{{line, line}, {{Leaf: "router-id", Value: "5"}}, {{Head: 1, Leaf: "router-id", Value: "5.5.5.5"}}} {
		if got := adv.Id(c); got != 0 {
			t.Errorf("%v: %x", c, got)
		}
	}
}
