package elect_test

import (
	"math"
	"math/rand"
	"slices"
	"sort"
	"testing"

	"waystone/elect"
)

// v is a voter whose address is its number and 10 more.
func v(id uint32, priority int, dr, bdr uint32) elect.Voter {
	return elect.Voter{Id: id, Addr: id + 10, Priority: priority, Dr: dr, Bdr: bdr}
}

// P13.1: told by one that can't be elected itself.
func TestOneRound(t *testing.T) {
	for what, a := range map[string]struct {
		others  []elect.Voter
		dr, bdr uint32
	}{
		"nobody":                                    {nil, 0, 0},
		"one of priority 0":                         {[]elect.Voter{v(1, 0, 11, 11)}, 0, 0},
		"one of a priority below 0":                 {[]elect.Voter{v(1, -1, 11, 0), v(2, math.MinInt, 0, 12)}, 0, 0},
		"one that names nobody":                     {[]elect.Voter{v(1, 1, 0, 0)}, 11, 11},
		"one that names itself deputy":              {[]elect.Voter{v(1, 1, 0, 11)}, 11, 11},
		"one that names itself speaker":             {[]elect.Voter{v(1, 1, 11, 0)}, 11, 0},
		"one that names itself both":                {[]elect.Voter{v(1, 1, 11, 11)}, 11, 0},
		"one that names others":                     {[]elect.Voter{v(1, 1, 99, 98)}, 11, 11},
		"the greater priority":                      {[]elect.Voter{v(1, 2, 0, 0), v(2, 1, 0, 0)}, 11, 11},
		"the greatest priority":                     {[]elect.Voter{v(3, 1, 0, 0), v(1, math.MaxInt, 0, 0), v(2, 255, 0, 0)}, 11, 11},
		"the greater number":                        {[]elect.Voter{v(1, 1, 0, 0), v(3, 1, 0, 0), v(2, 1, 0, 0)}, 13, 13},
		"the greater number, not by its sign":       {[]elect.Voter{{Id: 0x7FFFFFFF, Addr: 1, Priority: 1}, {Id: 0x80000000, Addr: 2, Priority: 1}}, 2, 2},
		"the first of those that are alike":         {[]elect.Voter{{Id: 1, Addr: 2, Priority: 1}, {Id: 1, Addr: 3, Priority: 1}, {Id: 1, Addr: 1, Priority: 1}}, 2, 2},
		"the first number, not the first address":   {[]elect.Voter{{Id: 1, Addr: 9, Priority: 1}, {Id: 2, Addr: 3, Priority: 1}}, 3, 3},
		"who names itself deputy is ahead":          {[]elect.Voter{v(1, 9, 0, 0), v(2, 1, 0, 12)}, 12, 12},
		"of two that name themselves deputy":        {[]elect.Voter{v(1, 1, 0, 11), v(2, 2, 0, 12), v(3, 1, 0, 13)}, 12, 12},
		"who is named deputy by others isn't":       {[]elect.Voter{v(1, 9, 0, 12), v(2, 1, 0, 0)}, 11, 11},
		"who names itself speaker is no deputy":     {[]elect.Voter{v(1, 9, 11, 11), v(2, 1, 0, 0)}, 11, 12},
		"and no other one's either":                 {[]elect.Voter{v(1, 9, 11, 11), v(2, 1, 0, 12), v(3, 5, 0, 0)}, 11, 12},
		"of two that name themselves speaker":       {[]elect.Voter{v(1, 1, 11, 0), v(2, 1, 12, 0)}, 12, 0},
		"the greater priority of such":              {[]elect.Voter{v(1, 2, 11, 0), v(2, 1, 12, 0), v(3, 3, 0, 0)}, 11, 13},
		"a speaker stays, whatever comes":           {[]elect.Voter{v(1, 1, 11, 0), v(2, 9, 11, 12), v(3, 8, 11, 12)}, 11, 12},
		"who names the other one speaker":           {[]elect.Voter{v(1, 1, 12, 0), v(2, 1, 11, 0)}, 12, 12},
		"of priority 0 none counts, by any name":    {[]elect.Voter{v(1, 0, 11, 0), v(2, 0, 0, 12), v(3, 1, 0, 0)}, 13, 13},
		"a speaker of priority 0":                   {[]elect.Voter{v(1, 0, 11, 0), v(2, 1, 11, 12), v(3, 2, 11, 12)}, 12, 12},
		"a deputy that all name, and is no more":    {[]elect.Voter{v(1, 1, 11, 99), v(2, 1, 11, 99)}, 11, 12},
		"a speaker that all name, and is no more":   {[]elect.Voter{v(1, 1, 99, 11), v(2, 7, 99, 11)}, 11, 11},
		"deputies of whom one is the speaker":       {[]elect.Voter{v(1, 9, 11, 11), v(2, 1, 0, 12), v(3, 1, 0, 13)}, 11, 13},
		"the first of speakers that are alike":      {[]elect.Voter{{Id: 1, Addr: 5, Priority: 1, Dr: 5}, {Id: 1, Addr: 6, Priority: 1, Dr: 6}}, 5, 0},
		"the first of deputies that are alike":      {[]elect.Voter{{Id: 1, Addr: 6, Priority: 1, Bdr: 6}, {Id: 1, Addr: 5, Priority: 1, Bdr: 5}}, 6, 6},
		"greatest number and address that there is": {[]elect.Voter{{Id: math.MaxUint32, Addr: math.MaxUint32, Priority: 1}, v(1, 1, 0, 0)}, math.MaxUint32, math.MaxUint32},
	} {
		all := append([]elect.Voter{v(50, 0, 0, 0)}, a.others...)
		if dr, bdr := elect.Elect(all); dr != a.dr || bdr != a.bdr {
			t.Errorf("%s: %d, %d, want %d, %d", what, dr, bdr, a.dr, a.bdr)
		}
	}
}

// P13.1: told by one that may be elected itself: who comes to be one of both, or is no more, asks once more.
func TestTheSecondRound(t *testing.T) {
	for what, a := range map[string]struct {
		all     []elect.Voter
		dr, bdr uint32
	}{
		"alone":                                   {[]elect.Voter{v(1, 1, 0, 0)}, 11, 0},
		"alone, as speaker":                       {[]elect.Voter{v(1, 1, 11, 0)}, 11, 0},
		"alone, as both":                          {[]elect.Voter{v(1, 1, 11, 11)}, 11, 0},
		"alone, as deputy":                        {[]elect.Voter{v(1, 1, 0, 11)}, 11, 0},
		"alone, of priority 0":                    {[]elect.Voter{v(1, 0, 0, 0)}, 0, 0},
		"alone, as both, of priority 0":           {[]elect.Voter{v(1, 0, 11, 11)}, 0, 0},
		"newly both":                              {[]elect.Voter{v(2, 1, 0, 0), v(1, 1, 0, 0)}, 12, 11},
		"newly nothing":                           {[]elect.Voter{v(1, 1, 0, 0), v(2, 1, 0, 0)}, 12, 12},
		"newly deputy":                            {[]elect.Voter{v(1, 1, 0, 0), v(2, 1, 12, 0)}, 12, 11},
		"the deputy, when nobody speaks":          {[]elect.Voter{v(1, 1, 99, 11), v(2, 1, 99, 11)}, 11, 12},
		"and one that speaks already":             {[]elect.Voter{v(1, 1, 99, 11), v(2, 1, 12, 11)}, 12, 11},
		"the speaker still":                       {[]elect.Voter{v(1, 1, 11, 12), v(2, 9, 11, 12)}, 11, 12},
		"the deputy still":                        {[]elect.Voter{v(1, 1, 12, 11), v(2, 1, 12, 11)}, 12, 11},
		"the speaker no more":                     {[]elect.Voter{v(1, 1, 11, 0), v(2, 2, 12, 0)}, 12, 11},
		"the speaker no more, and another deputy": {[]elect.Voter{v(1, 1, 11, 0), v(2, 2, 12, 0), v(3, 1, 12, 13)}, 12, 13},
		"the deputy no more":                      {[]elect.Voter{v(1, 1, 12, 11), v(2, 2, 12, 0), v(3, 2, 12, 13)}, 12, 13},
		"the speaker, of priority 0":              {[]elect.Voter{v(1, 0, 11, 12), v(2, 1, 11, 12)}, 12, 12},
		"newly both, and deputies behind":         {[]elect.Voter{v(3, 9, 0, 0), v(1, 1, 0, 0), v(2, 1, 0, 0)}, 13, 12},
		"newly both, by its own name as deputy":   {[]elect.Voter{v(1, 1, 0, 11), v(2, 9, 0, 0), v(3, 9, 0, 0)}, 11, 13},
	} {
		if dr, bdr := elect.Elect(a.all); dr != a.dr || bdr != a.bdr {
			t.Errorf("%s: %d, %d, want %d, %d", what, dr, bdr, a.dr, a.bdr)
		}
	}
}

// P13.1
func TestStable(t *testing.T) {
	for what, a := range map[string]struct {
		all     []elect.Voter
		dr, bdr uint32
		passes  int
	}{
		"nobody":             {nil, 0, 0, 0},
		"an empty list":      {[]elect.Voter{}, 0, 0, 0},
		"of priority 0":      {[]elect.Voter{v(1, 0, 0, 0), v(2, 0, 0, 0)}, 0, 0, 1},
		"one that was named": {[]elect.Voter{v(1, 0, 9, 9)}, 0, 0, 2},
		"alone":              {[]elect.Voter{v(1, 1, 0, 0)}, 11, 0, 2},
		"alone, found":       {[]elect.Voter{v(1, 1, 11, 0)}, 11, 0, 1},
		"all found":          {[]elect.Voter{v(1, 1, 12, 11), v(2, 1, 12, 11), v(3, 0, 12, 11)}, 12, 11, 1},
		// first: 12, 12; second: 12, 11; then first: 12, 11
		"two that name nobody":                 {[]elect.Voter{v(1, 1, 0, 0), v(2, 1, 0, 0)}, 12, 11, 3},
		"the other way round":                  {[]elect.Voter{v(2, 1, 0, 0), v(1, 1, 0, 0)}, 12, 11, 2},
		"one of priority 0 finds it too":       {[]elect.Voter{v(3, 0, 0, 0), v(2, 1, 12, 11), v(1, 1, 12, 11)}, 12, 11, 2},
		"a speaker goes on":                    {[]elect.Voter{v(1, 1, 11, 0), v(2, 9, 11, 0), v(3, 0, 11, 0)}, 11, 12, 2},
		"the deputy speaks, when nobody does":  {[]elect.Voter{v(1, 1, 99, 11), v(2, 9, 99, 11)}, 11, 12, 2},
		"of two that speak the greater number": {[]elect.Voter{v(1, 1, 11, 0), v(2, 1, 12, 0)}, 12, 11, 2},
	} {
		if dr, bdr, passes := elect.Stable(a.all); dr != a.dr || bdr != a.bdr || passes != a.passes {
			t.Errorf("%s: %d, %d, %d, want %d, %d, %d", what, dr, bdr, passes, a.dr, a.bdr, a.passes)
		}
	}
}

// P13.1: of no voter.
func TestElectOfNobody(t *testing.T) {
	for _, all := range [][]elect.Voter{nil, {}} {
		if dr, bdr := elect.Elect(all); dr != 0 || bdr != 0 {
			t.Error(dr, bdr)
		}
	}
}

// firstOf tells the first of those that are left of all, when all are put in order.
func firstOf(all []elect.Voter, left func(x elect.Voter) bool) uint32 {
	var l []elect.Voter
	for _, x := range all {
		if x.Priority >= 1 && left(x) {
			l = append(l, x)
		}
	}
	sort.SliceStable(l, func(i, j int) bool {
		if l[i].Priority != l[j].Priority {
			return l[i].Priority > l[j].Priority
		}
		return l[i].Id > l[j].Id
	})
	if len(l) == 0 {
		return 0
	}
	return l[0].Addr
}

func roundOf(all []elect.Voter) (dr, bdr uint32) {
	bdr = firstOf(all, func(x elect.Voter) bool { return x.Dr != x.Addr && x.Bdr == x.Addr })
	if bdr == 0 {
		bdr = firstOf(all, func(x elect.Voter) bool { return x.Dr != x.Addr })
	}
	dr = firstOf(all, func(x elect.Voter) bool { return x.Dr == x.Addr })
	if dr == 0 {
		dr = bdr
	}
	return dr, bdr
}

func electOf(all []elect.Voter) (dr, bdr uint32) {
	l := slices.Clone(all)
	dr, bdr = roundOf(l)
	me := &l[0]
	newly := dr == me.Addr && me.Dr != me.Addr || bdr == me.Addr && me.Bdr != me.Addr
	noLonger := dr != me.Addr && me.Dr == me.Addr || bdr != me.Addr && me.Bdr == me.Addr
	if newly || noLonger {
		me.Dr, me.Bdr = dr, bdr
		dr, bdr = roundOf(l)
	}
	return dr, bdr
}

func stableOf(all []elect.Voter) (dr, bdr uint32, passes int) {
	l := slices.Clone(all)
	for passes < 16 {
		passes++
		before := slices.Clone(l)
		for i := range l {
			own := []elect.Voter{l[i]}
			for j := range l {
				if j != i {
					own = append(own, l[j])
				}
			}
			l[i].Dr, l[i].Bdr = electOf(own)
		}
		if slices.Equal(l, before) {
			break
		}
	}
	return l[0].Dr, l[0].Bdr, passes
}

// anyVoters are a few, of whom many name each other.
func anyVoters(r *rand.Rand) []elect.Voter {
	n := 1 + r.Intn(6)
	name := func() uint32 { return uint32(r.Intn(n + 2)) }
	var all []elect.Voter
	for i := range n {
		all = append(all, elect.Voter{Id: uint32(r.Intn(3)), Addr: uint32(1 + i), Priority: r.Intn(4) - 1, Dr: name(), Bdr: name()})
	}
	r.Shuffle(n, func(i, j int) { all[i], all[j] = all[j], all[i] })
	if r.Intn(8) == 0 {
		all[0].Addr = all[n-1].Addr
	}
	return all
}

// P13.1, P13.2: any voters, beside a second way of electing.
func TestAnyVoters(t *testing.T) {
	r := rand.New(rand.NewSource(13))
	took := map[int]int{}
	for range 40000 {
		all := anyVoters(r)
		before := slices.Clone(all)
		dr, bdr := elect.Elect(all)
		if wantDr, wantBdr := electOf(all); dr != wantDr || bdr != wantBdr {
			t.Fatalf("Elect(%v): %d, %d, want %d, %d", all, dr, bdr, wantDr, wantBdr)
		}
		dr, bdr, passes := elect.Stable(all)
		if wantDr, wantBdr, want := stableOf(all); dr != wantDr || bdr != wantBdr || passes != want {
			t.Fatalf("Stable(%v): %d, %d, %d, want %d, %d, %d", all, dr, bdr, passes, wantDr, wantBdr, want)
		}
		if !slices.Equal(all, before) {
			t.Fatalf("what was handed in is changed: %v, was %v", all, before)
		}
		took[passes]++
	}
	if took[1] == 0 || took[2] == 0 || took[3] == 0 {
		t.Errorf("passes: %v", took)
	}
}

// P13.2: neither what was handed in nor the room behind it.
func TestNothingIsChanged(t *testing.T) {
	all := []elect.Voter{v(1, 1, 0, 0), v(2, 1, 0, 0), v(3, 9, 77, 77), v(4, 9, 77, 77)}
	before := slices.Clone(all)
	elect.Elect(all[1:3])
	elect.Stable(all[:2])
	elect.Stable(all[:3])
	if !slices.Equal(all, before) {
		t.Errorf("%v, was %v", all, before)
	}
}

// P1: of a voter without an address nothing is promised, but that the calls end.
func TestVotersWithoutAnAddress(t *testing.T) {
	r := rand.New(rand.NewSource(14))
	for range 5000 {
		all := anyVoters(r)
		for i := range all {
			if r.Intn(2) == 0 {
				all[i].Addr = 0
			}
		}
		elect.Elect(all)
		if _, _, passes := elect.Stable(all); passes < 1 || passes > 16 {
			t.Fatalf("Stable(%v): %d passes", all, passes)
		}
	}
}
