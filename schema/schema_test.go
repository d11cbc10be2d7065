package schema_test

import (
	"reflect"
	"strings"
	"testing"

	"waystone/api"
	"waystone/schema"
)

// wantTable is the document's table.
func wantTable() []schema.Row {
	return []schema.Row{
		{0, "router-id", 0, 0, 0, nil, "", 6},
		{1, "cost", 2, 0, 65535, nil, "1", 2},
		{1, "type", 3, 0, 0, []string{"normal", "stub", "nssa"}, "normal", 3},
		{2, "address", 1, 0, 0, nil, "", 4},
		{2, "area", 0, 0, 0, nil, "", 5},
		{2, "auth", 4, 0, 8, nil, "", 3},
		{2, "cost", 2, 1, 65535, nil, "10", 2},
		{2, "dead", 2, 1, 65535, nil, "40", 3},
		{2, "hello", 2, 1, 65535, nil, "10", 3},
		{2, "network", 3, 0, 0, []string{"broadcast", "point-to-point"}, "broadcast", 4},
		{2, "priority", 2, 0, 255, nil, "1", 1},
		{2, "retransmit", 2, 1, 3600, nil, "5", 0},
	}
}

func sameRow(a, b schema.Row) bool {
	if len(a.Choices) == 0 && len(b.Choices) == 0 {
		a.Choices, b.Choices = nil, nil
	}
	return reflect.DeepEqual(a, b)
}

func wantRows(t *testing.T) {
	t.Helper()
	got, want := schema.Table(), wantTable()
	if len(got) != len(want) {
		t.Fatalf("%d rows", len(got))
	}
	for i := range want {
		if !sameRow(got[i], want[i]) {
			t.Errorf("row %d: %v, want %v", i, got[i], want[i])
		}
		if r, ok := schema.Find(want[i].Head, want[i].Name); !ok || !sameRow(r, want[i]) {
			t.Errorf("Find of row %d: %v, %t", i, r, ok)
		}
	}
}

// P4.1
func TestTable(t *testing.T) {
	wantRows(t)
}

// P4.3
func TestAnswersAreNewMemory(t *testing.T) {
	rows := schema.Table()
	for i := range rows {
		rows[i].Name = "spoiled"
		for k := range rows[i].Choices {
			rows[i].Choices[k] = "spoiled"
		}
		_ = append(rows[i].Choices[:0], "spoiled")
	}
	wantRows(t)
	for _, a := range wantTable() {
		r, _ := schema.Find(a.Head, a.Name)
		for k := range r.Choices {
			r.Choices[k] = "spoiled"
		}
	}
	wantRows(t)
}

// P4.1
func TestFindNone(t *testing.T) {
	for head := -2; head < 5; head++ {
		for _, name := range []string{"", "router-id", "cost", "type", "address", "area", "auth", "dead", "hello", "network", "priority", "retransmit",
			"Cost", "cost ", "rout", "router-id0", "normal"} {
			there := false
			for _, r := range wantTable() {
				there = there || r.Head == head && r.Name == name
			}
			r, ok := schema.Find(head, name)
			if ok != there || !ok && !sameRow(r, schema.Row{}) {
				t.Errorf("Find(%d, %q): %v, %t", head, name, r, ok)
			}
		}
	}
}

func wantRight(t *testing.T, head int, name string, right, wrong []string) {
	t.Helper()
	r, ok := schema.Find(head, name)
	if !ok {
		t.Fatal(head, name)
	}
	for _, s := range right {
		if !schema.Right(r, s) {
			t.Errorf("%s %q isn't right", name, s)
		}
	}
	for _, s := range append(wrong, "", " ", "é") {
		if schema.Right(r, s) {
			t.Errorf("%s %q is right", name, s)
		}
	}
}

// P4.1: the limits of each row, and beyond.
func TestRight(t *testing.T) {
	ids, noIds := []string{"0.0.0.0", "1.2.3.4", "255.255.255.255"}, []string{"1.2.3", "1.2.3.256", "1.2.3.04", "1.2.3.4/24", "16909060", "a", "1.2.3.4 "}
	wantRight(t, api.Top, "router-id", ids, noIds)
	wantRight(t, api.Area, "cost", []string{"0", "1", "65535"}, []string{"65536", "-1", "00", "01", "a", "1.0"})
	wantRight(t, api.Area, "type", []string{"normal", "stub", "nssa"}, []string{"Normal", "norma", "normal ", "broadcast", "stubnssa"})
	wantRight(t, api.Interface, "address", []string{"10.0.0.1/24", "0.0.0.0/1", "255.255.255.255/32"},
		[]string{"10.0.0.1", "10.0.0.1/0", "10.0.0.1/33", "10.0.0.1/024", "10.0.0/24", "10.0.0.1/", "/24", "10.0.0.1/24/", "10.0.0.1//24"})
	wantRight(t, api.Interface, "area", ids, noIds)
	wantRight(t, api.Interface, "auth", []string{"a", "12345678", "a/b.c-_Z"}, []string{"123456789", "a b", "{", ";", "#", "a;", strings.Repeat("a", 31)})
	wantRight(t, api.Interface, "cost", []string{"1", "10", "65535"}, []string{"0", "65536", "01"})
	wantRight(t, api.Interface, "dead", []string{"1", "65535"}, []string{"0", "65536"})
	wantRight(t, api.Interface, "hello", []string{"1", "65535"}, []string{"0", "65536"})
	wantRight(t, api.Interface, "network", []string{"broadcast", "point-to-point"}, []string{"Broadcast", "point", "normal"})
	wantRight(t, api.Interface, "priority", []string{"0", "255"}, []string{"256", "-0"})
	wantRight(t, api.Interface, "retransmit", []string{"1", "3600"}, []string{"0", "3601"})
}

// P4.1: rows that the table hasn't.
func TestRightOfAnyRow(t *testing.T) {
	for _, a := range []struct {
		r     schema.Row
		value string
		want  bool
	}{
		{schema.Row{Kind: 5}, "1", false},
		{schema.Row{Kind: -1}, "1.2.3.4", false},
		{schema.Row{}, "1.2.3.4", true},
		{schema.Row{Kind: schema.Number, Lo: -5, Hi: -1}, "0", false},
		{schema.Row{Kind: schema.Number, Lo: 3, Hi: 2}, "3", false},
		{schema.Row{Kind: schema.Number}, "0", true},
		{schema.Row{Kind: schema.Number, Hi: 1 << 40}, "999999999", true},
		{schema.Row{Kind: schema.Number, Hi: 1 << 40}, "1000000000", false},
		{schema.Row{Kind: schema.Choice}, "", false},
		{schema.Row{Kind: schema.Choice, Choices: []string{"x y"}}, "x y", true},
		{schema.Row{Kind: schema.Word}, "a", false},
		{schema.Row{Kind: schema.Word, Hi: -1}, "", false},
		{schema.Row{Kind: schema.Word, Hi: 99}, strings.Repeat("a", 31), true},
		{schema.Row{Kind: schema.Word, Hi: 99}, strings.Repeat("a", 32), false},
	} {
		if schema.Right(a.r, a.value) != a.want {
			t.Errorf("Right(%v, %q) isn't %t", a.r, a.value, a.want)
		}
	}
}

// P4.1
func TestNamed(t *testing.T) {
	for head, names := range map[int][2][]string{
		api.Top:       {{""}, {"a", "0.0.0.0", " "}},
		api.Area:      {{"0.0.0.0", "255.255.255.255"}, {"", "0", "a", "0.0.0.0/1", "0.0.0.00"}},
		api.Interface: {{"eth0", "a.b-c_D", "0.0.0.0", strings.Repeat("e", 31)}, {"", "a/b", "/", "a b", "{", "a;", "a#", strings.Repeat("e", 32)}},
		-1:            {nil, {"", "0.0.0.0", "eth0"}},
		3:             {nil, {"", "0.0.0.0", "eth0"}},
	} {
		for right, list := range map[bool][]string{true: names[0], false: names[1]} {
			for _, name := range list {
				if schema.Named(head, name) != right {
					t.Errorf("Named(%d, %q) isn't %t", head, name, right)
				}
			}
		}
	}
}
