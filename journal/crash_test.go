package journal_test

import (
	"fmt"
	"math/rand"
	"testing"

	"waystone/api"
	"waystone/disk"
	"waystone/journal"
)

// deed is a call of a journal, and what it makes of the entries.
type deed struct {
	compact bool
	l       []string
}

func (a deed) do(j *journal.Journal) api.Errno {
	if a.compact {
		return j.Compact(lists(a.l...))
	}
	return j.Append([]byte(a.l[0]))
}

func (a deed) of(before []string) []string {
	if a.compact {
		return a.l
	}
	return append(before[:len(before):len(before)], a.l[0])
}

func add(s string) deed         { return deed{l: []string{s}} }
func compact(l ...string) deed  { return deed{compact: true, l: l} }
func subset(n, bits int) []bool { return bitsOf(make([]bool, n), bits) }

func bitsOf(kept []bool, bits int) []bool {
	for k := range kept {
		kept[k] = bits>>k&1 == 1
	}
	return kept
}

// replay does deeds on a disk of its own.
func replay(t *testing.T, sectors int, deeds []deed) (*disk.Disk, *journal.Journal, []string) {
	t.Helper()
	d, j := begun(t, sectors)
	var want []string
	for _, a := range deeds {
		wantErrno(t, "a deed", a.do(j), api.OK)
		want = a.of(want)
	}
	return d, j, want
}

// P2.2, P2.3: each step of each deed, and each choice of what is kept.
func TestWhereverPowerGoes(t *testing.T) {
	deeds := []deed{
		add("a"), add(text(46, 1)), add(text(200, 2)), compact("b", text(60, 3)), add(text(110, 4)), add("c"),
		compact(), add(text(300, 5)), compact(text(109, 6)), add("d"), compact("e", "f", "g", "h", "i", "j", "k"), add("l"),
	}
	const sectors = 18
	for k, a := range deeds {
		for steps, done := 0, false; !done; steps++ {
			for bits, choices := 0, 1; bits < choices; bits++ {
				d, j, before := replay(t, sectors, deeds[:k])
				d.Arm(steps)
				e := a.do(j)
				if done = e == api.OK; done {
					break
				}
				choices = 1 << d.Waits()
				what := fmt.Sprintf("deed %d, step %d, kept %b", k, steps, bits)
				wantErrno(t, what, e, api.ErrStop)
				d.Crash(subset(d.Waits(), bits))
				checkBehindCrash(t, what, d, before, a)
			}
		}
	}
}

// checkBehindCrash asks for the entries ahead of a deed or behind it, and that the journal goes on from there.
func checkBehindCrash(t *testing.T, what string, d *disk.Disk, before []string, a deed) {
	t.Helper()
	got := opened(t, d)
	if !same(got, before) && !same(got, a.of(before)) {
		t.Fatalf("%s: %q", what, short(got))
	}
	j := open(t, d)
	wantTexts(t, what+", again", texts(j), got...)
	if j.Append([]byte("more")) == api.OK {
		got = append(got, "more")
	}
	wantTexts(t, what+", and more", opened(t, d), got...)
	got = []string{"alone", text(50, 1)}
	wantErrno(t, what+", Compact", j.Compact(lists(got...)), api.OK)
	wantTexts(t, what+", and alone", opened(t, d), got...)
}

// P2.2: long lives, in which power goes again and again, perhaps in what is done behind a crash.
func TestPowerGoesAgainAndAgain(t *testing.T) {
	r := rand.New(rand.NewSource(2))
	for range 400 {
		d, j := begun(t, 4+r.Intn(20))
		var want []string
		for range 60 {
			a := anyDeed(r)
			d.Arm(r.Intn(60) - 20)
			switch e := a.do(j); e {
			case api.OK:
				want = a.of(want)
				d.Arm(-1)
			case api.ErrFull:
				d.Arm(-1)
			default:
				wantErrno(t, "a deed", e, api.ErrStop)
				d.Crash(subset(d.Waits(), int(r.Int31())))
				j = open(t, d)
				if got := texts(j); same(got, a.of(want)) {
					want = got
				}
			}
			wantTexts(t, "All", texts(j), want...)
			wantTexts(t, "Open", opened(t, d), want...)
			if t.Failed() {
				return
			}
		}
	}
}

func anyDeed(r *rand.Rand) deed {
	some := func() string { return text(1+r.Intn(200), byte(r.Intn(250))) }
	if r.Intn(3) > 0 {
		return add(some())
	}
	var l []string
	for range r.Intn(4) {
		l = append(l, some())
	}
	return compact(l...)
}

// P2.2: a Compact of which all stayed but its slot, and then a shorter one.
func TestATryOfCompactIsForgotten(t *testing.T) {
	d, j := begun(t, 12)
	put(t, j, "x")
	d.Arm(5)
	wantErrno(t, "Compact", j.Compact(lists("a", "b", "c", "d")), api.ErrStop)
	d.Crash(all(5))
	j = open(t, d)
	wantTexts(t, "Open", texts(j), "x")
	wantErrno(t, "Compact", j.Compact(lists("e")), api.OK)
	wantTexts(t, "Open", opened(t, d), "e")
	put(t, j, "f")
	wantTexts(t, "Open", opened(t, d), "e", "f")
}

// P2.1, P2.2: Begin has no entry, though a try may have left frames of its generation in its half.
func TestBeginForgetsATry(t *testing.T) {
	left := func() *disk.Disk {
		d, j := begun(t, 12)
		put(t, j, "x")
		wantErrno(t, "Compact", j.Compact(lists("y")), api.OK)
		d.Arm(5)
		wantErrno(t, "Compact", j.Compact(lists("a", "b", "c", "d")), api.ErrStop)
		d.Crash(all(5))
		return d
	}
	d := left()
	j := begin(t, d)
	wantTexts(t, "All", texts(j))
	for _, want := range [][]string{nil, {"e"}, {"e", "f"}, {"e", "f", text(46, 1)}} {
		if len(want) > 0 {
			put(t, j, want[len(want)-1])
		}
		wantTexts(t, "Open", opened(t, d), want...)
	}
	for steps := range 6 {
		for bits := range 4 {
			d := left()
			d.Arm(steps)
			_, e := journal.Begin(d)
			d.Crash(subset(d.Waits(), bits))
			j, wrong := journal.Open(d)
			if e == api.OK && wrong != api.OK || wrong == api.OK && len(j.All()) > 1 {
				t.Errorf("step %d, kept %b: error %d, %q", steps, bits, wrong, texts(j))
			}
		}
	}
}

// P2.1, P2.2: power in Begin may take both slots; the next one counts from 1 again, and the first life's frames are of 1, too.
func TestBeginForgetsItsFirstLife(t *testing.T) {
	d, j := begun(t, 12)
	put(t, j, "a", "b", "c", "d")
	d.Arm(2)
	if _, e := journal.Begin(d); e != api.ErrStop {
		t.Fatal(e)
	}
	d.Crash([]bool{true, false})
	if _, e := journal.Open(d); e != api.ErrForm {
		t.Fatal(e)
	}
	j = begin(t, d)
	wantTexts(t, "Open", opened(t, d))
	put(t, j, "e")
	wantTexts(t, "Open", opened(t, d), "e")
	put(t, j, text(46, 1))
	wantTexts(t, "Open", opened(t, d), "e", text(46, 1))
}

// P2.2: what is left of an Append may look like a frame, and must not be taken for one.
func TestWhatAnAppendLeavesIsNoFrame(t *testing.T) {
	// its second sector is, to the byte, a frame of the place behind
	entry := text(45, 1) + string(frameBytes(1, 1, "never told"))
	d, j := begun(t, 12)
	d.Arm(3)
	wantErrno(t, "Append", j.Append([]byte(entry)), api.ErrStop)
	d.Crash(nil)
	j = open(t, d)
	wantTexts(t, "Open", texts(j))
	put(t, j, "a")
	wantTexts(t, "Open", opened(t, d), "a")
	put(t, j, "b")
	wantTexts(t, "Open", opened(t, d), "a", "b")
}
