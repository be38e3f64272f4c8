package flow

import (
	"fmt"
	"math"
	"math/big"
	"math/rand"
	"slices"
	"testing"

	"storeman/api"
)

func goods(id int, item string, from, until int, qty int64) api.Lot {
	return api.Lot{Id: id, Item: item, Days: api.Window{From: from, Until: until}, Qty: qty}
}

func want(item string, day int, qty int64) api.Want {
	return api.Want{Item: item, Day: day, Qty: qty}
}

func use(place, id int, qty int64) api.Use {
	return api.Use{Want: place, Lot: id, Qty: qty}
}

// example answers the lots and the wants of the chapter's example.
func example() ([]api.Lot, []api.Want) {
	return []api.Lot{goods(1, "A", 0, 5, 3), goods(2, "A", 0, 9, 4)}, []api.Want{want("A", 7, 2), want("A", 2, 5)}
}

// someLots answers right lots by a fixed rule, few of them of other items, many of one Until, in any order of their Ids.
func someLots(r *rand.Rand, most int, qty int64) []api.Lot {
	l := make([]api.Lot, r.Intn(most+1))
	ids := r.Perm(2 * most)
	for i := range l {
		item := []string{"A", "A", "A", "B", "AB"}[r.Intn(5)]
		from := r.Intn(7)
		l[i] = goods(ids[i]+1, item, from, from+1+r.Intn(5), 1+r.Int63n(qty))
		l[i].Arrived = r.Intn(2) == 0
	}
	return l
}

// someWants answers right wants by a fixed rule, many of one day, most of them on a day of one of the lots.
func someWants(r *rand.Rand, lots []api.Lot, most int, qty int64) []api.Want {
	l := make([]api.Want, r.Intn(most+1))
	for i := range l {
		l[i] = want([]string{"A", "A", "A", "B", "AB"}[r.Intn(5)], r.Intn(10), 1+r.Int63n(qty))
		if len(lots) > 0 && r.Intn(20) > 0 {
			of := lots[r.Intn(len(lots))]
			l[i].Item, l[i].Day = of.Item, of.Days.From+r.Intn(of.Days.Until-of.Days.From)
		}
	}
	return l
}

// wrongLots are lots that are not right, each for one reason.
func wrongLots() []api.Lot {
	return []api.Lot{
		goods(0, "A", 0, 9, 5), goods(-1, "A", 0, 9, 5), goods(math.MinInt, "A", 0, 9, 5),
		goods(9, "", 0, 9, 5), goods(9, "a", 0, 9, 5), goods(9, "7A", 0, 9, 5), goods(9, "ABCDEFGHIJKLM", 0, 9, 5),
		goods(9, "A", -1, 9, 5), goods(9, "A", 4, 4, 5), goods(9, "A", 5, 4, 5), goods(9, "A", 0, 4002, 5), goods(9, "A", math.MinInt, math.MaxInt, 5),
		goods(9, "A", 0, 9, 0), goods(9, "A", 0, 9, -1), goods(9, "A", 0, 9, 1<<30+1), goods(9, "A", 0, 9, math.MaxInt64), goods(9, "A", 0, 9, math.MinInt64),
		{},
	}
}

// wrongWants are wants that are not right, each for one reason.
func wrongWants() []api.Want {
	return []api.Want{
		want("", 2, 1), want("a", 2, 1), want("-A", 2, 1), want("A ", 2, 1), want("ABCDEFGHIJKLM", 2, 1),
		want("A", -1, 1), want("A", 4001, 1), want("A", math.MinInt, 1), want("A", math.MaxInt, 1),
		want("A", 2, 0), want("A", 2, -1), want("A", 2, 1<<50+1), want("A", 2, math.MaxInt64), want("A", 2, math.MinInt64),
		{},
	}
}

// plain is a plain other way to Fill and Left: day by day, want by want, each time the lot is looked for that is over first.
func plain(lots []api.Lot, wants []api.Want) ([]api.Use, []api.Lot, bool) {
	left := slices.Clone(lots)
	var uses []api.Use
	for day := 0; day <= 4000; day++ {
		for i, w := range wants {
			for need := w.Qty; w.Day == day && need > 0; {
				first := -1
				for j, l := range left {
					if l.Item != w.Item || l.Days.From > day || day >= l.Days.Until || l.Qty == 0 {
						continue
					}
					if first < 0 || l.Days.Until < left[first].Days.Until || l.Days.Until == left[first].Days.Until && l.Id < left[first].Id {
						first = j
					}
				}
				if first < 0 {
					return nil, nil, false
				}
				qty := min(need, left[first].Qty)
				need -= qty
				left[first].Qty -= qty
				uses = append(uses, use(i, left[first].Id, qty))
			}
		}
	}
	return uses, slices.DeleteFunc(left, func(l api.Lot) bool { return l.Qty == 0 }), true
}

// refused holds all calls to what they answer of lots and wants that may not be together, or can't be served.
func refused(t *testing.T, lots []api.Lot, wants []api.Want) {
	t.Helper()
	if uses, ok := Fill(lots, wants); len(uses) != 0 || ok {
		t.Error("Fill", lots, wants, uses, ok)
	}
	if Fits(lots, wants) {
		t.Error("Fits", lots, wants)
	}
	if left, ok := Left(lots, wants); len(left) != 0 || ok {
		t.Error("Left", lots, wants, left, ok)
	}
}

func TestP5_1Fill(t *testing.T) {
	for i, c := range []struct {
		lots  []api.Lot
		wants []api.Want
		uses  []api.Use
	}{
		{nil, nil, nil},
		{[]api.Lot{}, []api.Want{}, nil},
		{[]api.Lot{goods(1, "A", 0, 5, 3)}, nil, nil},
		{[]api.Lot{goods(1, "A", 0, 5, 3), goods(2, "A", 0, 9, 4)}, []api.Want{want("A", 7, 2), want("A", 2, 5)}, []api.Use{use(1, 1, 3), use(1, 2, 2), use(0, 2, 2)}},
		// Those of one day are served as they stand.
		{[]api.Lot{goods(1, "A", 0, 5, 3), goods(2, "A", 0, 9, 4)}, []api.Want{want("A", 3, 2), want("A", 2, 1), want("A", 3, 1)}, []api.Use{use(1, 1, 1), use(0, 1, 2), use(2, 2, 1)}},
		// What is over first goes first, wherever it stands, whatever its Id; of those that are over together the least Id.
		{[]api.Lot{goods(1, "A", 0, 9, 1), goods(7, "A", 0, 8, 1), goods(10, "A", 2, 7, 1), goods(9, "A", 0, 7, 1)}, []api.Want{want("A", 4, 4)}, []api.Use{use(0, 9, 1), use(0, 10, 1), use(0, 7, 1), use(0, 1, 1)}},
		// What is not used up at once is gone on with, and what begins later and is over sooner goes ahead of it then.
		{[]api.Lot{goods(1, "A", 0, 9, 5), goods(2, "A", 3, 6, 4)}, []api.Want{want("A", 2, 2), want("A", 3, 1), want("A", 5, 4)}, []api.Use{use(0, 1, 2), use(1, 2, 1), use(2, 2, 3), use(2, 1, 1)}},
		// The first day of a lot, and its last one.
		{[]api.Lot{goods(1, "A", 3, 5, 2)}, []api.Want{want("A", 3, 1), want("A", 4, 1)}, []api.Use{use(0, 1, 1), use(1, 1, 1)}},
		{[]api.Lot{goods(1, "A", 0, 1, 2), goods(2, "A", 4000, 4001, 2)}, []api.Want{want("A", 4000, 2), want("A", 0, 2)}, []api.Use{use(1, 1, 2), use(0, 2, 2)}},
		// Lots of other items are left.
		{[]api.Lot{goods(1, "B", 0, 5, 3), goods(2, "AB", 0, 5, 3), goods(3, "A", 0, 9, 3)}, []api.Want{want("A", 2, 3), want("AB", 2, 1)}, []api.Use{use(0, 3, 3), use(1, 2, 1)}},
		// What is on order serves as well as what has arrived.
		{[]api.Lot{goods(1, "A", 0, 5, 3), {Id: 2, Item: "A", Days: api.Window{From: 0, Until: 5}, Qty: 3, Arrived: true}}, []api.Want{want("A", 2, 4)}, []api.Use{use(0, 1, 3), use(0, 2, 1)}},
		{[]api.Lot{goods(math.MaxInt, "ABCDEFGHIJKL", 0, 4001, 1<<30), goods(1, "ABCDEFGHIJKL", 0, 4001, 1<<30)}, []api.Want{want("ABCDEFGHIJKL", 2, 1<<31)}, []api.Use{use(0, 1, 1<<30), use(0, math.MaxInt, 1<<30)}},
	} {
		uses, ok := Fill(c.lots, c.wants)
		if !slices.Equal(uses, c.uses) || !ok {
			t.Error("Fill", i, uses, ok)
		}
		if !Fits(c.lots, c.wants) {
			t.Error("Fits", i)
		}
	}
}

func TestP5_1NotEnough(t *testing.T) {
	for _, c := range []struct {
		lots  []api.Lot
		wants []api.Want
	}{
		{[]api.Lot{goods(1, "A", 0, 5, 3), goods(2, "A", 0, 9, 4)}, []api.Want{want("A", 4, 6), want("A", 8, 2)}},
		{nil, []api.Want{want("A", 4, 1)}},
		{[]api.Lot{goods(1, "A", 0, 9, 3)}, []api.Want{want("A", 4, 4)}},
		{[]api.Lot{goods(1, "A", 0, 9, 3)}, []api.Want{want("A", 4, 3), want("A", 4, 1)}},
		{[]api.Lot{goods(1, "A", 0, 9, 3)}, []api.Want{want("A", 4, 3), want("A", 2, 1)}},
		{[]api.Lot{goods(1, "A", 3, 5, 3)}, []api.Want{want("A", 2, 1)}},
		{[]api.Lot{goods(1, "A", 3, 5, 3)}, []api.Want{want("A", 5, 1)}},
		{[]api.Lot{goods(1, "B", 0, 9, 3), goods(2, "AA", 0, 9, 3)}, []api.Want{want("A", 4, 1)}},
		{[]api.Lot{goods(1, "A", 0, 9, 3)}, []api.Want{want("A", 4, 1), want("B", 4, 1)}},
		{[]api.Lot{goods(1, "A", 0, 9, 1<<30)}, []api.Want{want("A", 4, 1<<50)}},
		{[]api.Lot{goods(1, "A", 0, 9, 1<<30)}, []api.Want{want("A", 4, 1<<50), want("A", 4, 1<<50), want("A", 5, 1<<50)}},
	} {
		refused(t, c.lots, c.wants)
	}
}

// TestP5_1NotTogether puts what may not be beside lots and wants that can be served, ahead of them and behind them.
func TestP5_1NotTogether(t *testing.T) {
	lots, wants := example()
	for _, wrong := range wrongLots() {
		refused(t, append(slices.Clone(lots), wrong), wants)
		refused(t, append([]api.Lot{wrong}, lots...), wants)
		refused(t, []api.Lot{wrong}, nil)
	}
	for _, wrong := range wrongWants() {
		refused(t, lots, append(slices.Clone(wants), wrong))
		refused(t, lots, append([]api.Want{wrong}, wants...))
		refused(t, lots, []api.Want{wrong})
	}
	for _, same := range []api.Lot{lots[0], goods(1, "B", 7, 8, 1), goods(2, "A", 0, 5, 3)} {
		refused(t, append(slices.Clone(lots), same), wants)
		refused(t, append([]api.Lot{same}, lots...), nil)
	}
}

// many answers so many lots of A, one for each day, and so many wants of one of it.
func many(lots, wants int) ([]api.Lot, []api.Want) {
	var l []api.Lot
	for i := range lots {
		l = append(l, goods(lots-i, "A", i, 4001, 100))
	}
	var w []api.Want
	for i := range wants {
		w = append(w, want("A", 4000-i%7, 1))
	}
	return l, w
}

func TestP5_1Limits(t *testing.T) {
	for _, c := range []struct {
		lots, wants int
		ok          bool
	}{{300, 20000, true}, {300, 0, true}, {200, 20000, true}, {301, 20000, false}, {301, 0, false}, {300, 20001, false}, {199, 20000, false}} {
		lots, wants := many(c.lots, c.wants)
		uses, ok := Fill(lots, wants)
		if ok != c.ok || ok && len(uses) != c.wants || !ok && len(uses) != 0 || Fits(lots, wants) != c.ok {
			t.Error("Fill of many", c, len(uses), ok)
		}
		if left, ok := Left(lots, wants); ok != c.ok || ok && len(left) != c.lots-c.wants/100 || !ok && len(left) != 0 {
			t.Error("Left of many", c, len(left), ok)
		}
		if got := Check(lots, wants, uses); got != c.ok {
			t.Error("Check of many", c, got)
		}
	}
	refused(t, nil, make([]api.Want, 20001))
	refused(t, make([]api.Lot, 301), nil)
}

// TestP5_1ManyWide asks for so many wants among lots that none of them can use that to go by them at leisure would be felt.
func TestP5_1ManyWide(t *testing.T) {
	var lots []api.Lot
	for i := range 299 {
		lots = append(lots, goods(i+1, "A", 3998, 3999, 1))
	}
	lots = append(lots, goods(300, "A", 0, 4001, 1<<30))
	var wants []api.Want
	for i := range 20000 {
		wants = append(wants, want("A", i*7919%3998, 1))
	}
	uses, ok := Fill(lots, wants)
	if !ok || len(uses) != len(wants) || slices.ContainsFunc(uses, func(u api.Use) bool { return u.Lot != 300 || u.Qty != 1 }) {
		t.Error("Fill", len(uses), ok)
	}
}

// TestP5_1AsTheyStand serves so many wants of one day that a way that turns them about would be seen.
func TestP5_1AsTheyStand(t *testing.T) {
	lots := []api.Lot{goods(1, "A", 0, 9, 1<<30)}
	for _, size := range []int{2, 12, 13, 50, 300, 5000} {
		for _, days := range []int{1, 3} {
			var wants []api.Want
			for i := range size {
				wants = append(wants, want("A", (size-i)%days, int64(i%4+1)))
			}
			uses, ok := Fill(lots, wants)
			if plainUses, _, _ := plain(lots, wants); !slices.Equal(uses, plainUses) || !ok {
				t.Error("turned about", size, days)
			}
			for i := 1; i < len(uses); i++ {
				if wants[uses[i-1].Want].Day == wants[uses[i].Want].Day && uses[i-1].Want >= uses[i].Want {
					t.Fatal("turned about", size, days, uses[i-1], uses[i])
				}
			}
		}
	}
}

// TestP5_1AsPlain holds Fill and Fits, of any right lots and wants, against a plain other way.
func TestP5_1AsPlain(t *testing.T) {
	r := rand.New(rand.NewSource(1))
	told := [2]int{}
	for range 6000 {
		lots := someLots(r, 9, 12)
		wants := someWants(r, lots, 7, 6)
		want, _, enough := plain(lots, wants)
		uses, ok := Fill(lots, wants)
		if !slices.Equal(uses, want) || ok != enough || Fits(lots, wants) != enough {
			t.Fatal("Fill", lots, wants, uses, ok)
		}
		if ok && len(wants) > 1 {
			told[0]++
		} else if !ok {
			told[1]++
		}
	}
	if told[0] < 500 || told[1] < 500 {
		t.Error("too few of one kind", told)
	}
}

func TestP5_2Left(t *testing.T) {
	lots, wants := example()
	for i, c := range []struct {
		lots  []api.Lot
		wants []api.Want
		left  []api.Lot
	}{
		{nil, nil, nil},
		{[]api.Lot{}, []api.Want{}, nil},
		{lots, nil, lots},
		{lots, wants, nil},
		{lots, wants[1:], []api.Lot{goods(2, "A", 0, 9, 2)}},
		{lots, wants[:1], []api.Lot{goods(1, "A", 0, 5, 3), goods(2, "A", 0, 9, 2)}},
		// As they stand, whatever their order of use, those of other items, too.
		{[]api.Lot{goods(9, "A", 0, 9, 5), goods(2, "B", 3, 4, 6), goods(4, "A", 0, 7, 5), goods(3, "A", 0, 8, 5)}, []api.Want{want("A", 2, 6)}, []api.Lot{goods(9, "A", 0, 9, 5), goods(2, "B", 3, 4, 6), goods(3, "A", 0, 8, 4)}},
	} {
		if left, ok := Left(c.lots, c.wants); !slices.Equal(left, c.left) || !ok {
			t.Error("Left", i, left, ok)
		}
	}
}

func TestP5_2LeftAsPlain(t *testing.T) {
	r := rand.New(rand.NewSource(2))
	some := 0
	for range 6000 {
		lots := someLots(r, 9, 12)
		wants := someWants(r, lots, 6, 5)
		_, want, enough := plain(lots, wants)
		left, ok := Left(lots, wants)
		if !slices.Equal(left, want) || ok != enough {
			t.Fatal("Left", lots, wants, left, ok)
		}
		if ok && len(wants) > 1 && len(left) > 1 {
			some++
		}
	}
	if some < 500 {
		t.Error("too few with some left", some)
	}
}

func TestP5_2Check(t *testing.T) {
	lots, wants := example()
	for i, c := range []struct {
		uses []api.Use
		want bool
	}{
		{[]api.Use{use(1, 1, 3), use(1, 2, 2), use(0, 2, 2)}, true},
		// In any order, and in parts.
		{[]api.Use{use(0, 2, 2), use(1, 2, 2), use(1, 1, 3)}, true},
		{[]api.Use{use(1, 1, 1), use(0, 2, 1), use(1, 2, 1), use(1, 1, 2), use(1, 2, 1), use(0, 2, 1)}, true},
		{nil, false},
		{[]api.Use{use(1, 1, 3), use(1, 2, 2)}, false},
		{[]api.Use{use(1, 1, 3), use(1, 2, 2), use(0, 2, 1)}, false},
		{[]api.Use{use(1, 1, 2), use(1, 2, 2), use(0, 2, 2)}, false},
		// More than is wanted, more than a lot has.
		{[]api.Use{use(1, 1, 3), use(1, 2, 2), use(0, 2, 2), use(0, 2, 1)}, false},
		{[]api.Use{use(1, 1, 4), use(1, 2, 1), use(0, 2, 2)}, false},
		{[]api.Use{use(1, 1, 2), use(1, 1, 2), use(1, 2, 1), use(0, 2, 2)}, false},
		{[]api.Use{use(1, 1, 2), use(1, 2, 3), use(0, 2, 2)}, false},
		// Of a day that the lot has not.
		{[]api.Use{use(0, 1, 2), use(1, 1, 1), use(1, 2, 4)}, false},
		// None of any lot, less than none.
		{[]api.Use{use(1, 1, 3), use(1, 2, 2), use(0, 2, 2), use(0, 2, 0)}, false},
		{[]api.Use{use(1, 1, 3), use(1, 2, 2), use(0, 2, 3), use(0, 2, -1)}, false},
		{[]api.Use{use(0, 2, -1), use(1, 1, 3), use(1, 2, 2), use(0, 2, 3)}, false},
		{[]api.Use{use(1, 1, 3), use(1, 2, 2), use(0, 2, 2), use(0, 2, math.MinInt64), use(0, 2, math.MinInt64)}, false},
		{[]api.Use{use(1, 1, 3), use(1, 2, 2), use(0, 2, math.MaxInt64), use(0, 2, math.MaxInt64), use(0, 2, 4)}, false},
		// No such want, no such lot.
		{[]api.Use{use(1, 1, 3), use(1, 2, 2), use(0, 2, 2), use(2, 2, 1)}, false},
		{[]api.Use{use(1, 1, 3), use(1, 2, 2), use(0, 2, 2), use(-1, 2, 1)}, false},
		{[]api.Use{use(1, 1, 3), use(1, 2, 2), use(math.MaxInt, 2, 2)}, false},
		{[]api.Use{use(math.MinInt, 2, 2), use(1, 1, 3), use(1, 2, 2)}, false},
		{[]api.Use{use(1, 1, 3), use(1, 2, 2), use(0, 3, 2)}, false},
		{[]api.Use{use(1, 1, 3), use(1, 2, 2), use(0, 0, 2)}, false},
		{[]api.Use{use(1, 1, 3), use(1, 2, 2), use(0, -2, 2)}, false},
	} {
		if got := Check(lots, wants, c.uses); got != c.want {
			t.Error("Check", i, c.uses, got)
		}
	}
}

func TestP5_2CheckOfOthers(t *testing.T) {
	for i, c := range []struct {
		lots  []api.Lot
		wants []api.Want
		uses  []api.Use
		want  bool
	}{
		{nil, nil, nil, true},
		{[]api.Lot{}, []api.Want{}, []api.Use{}, true},
		{[]api.Lot{goods(1, "A", 0, 5, 3)}, nil, nil, true},
		{[]api.Lot{goods(1, "A", 0, 5, 3)}, nil, []api.Use{use(0, 1, 1)}, false},
		{nil, []api.Want{want("A", 2, 1)}, nil, false},
		{nil, []api.Want{want("A", 2, 1)}, []api.Use{use(0, 0, 1)}, false},
		// Uses need not be those that Fill tells.
		{[]api.Lot{goods(1, "A", 0, 5, 3), goods(2, "A", 0, 9, 3)}, []api.Want{want("A", 2, 3)}, []api.Use{use(0, 2, 3)}, true},
		{[]api.Lot{goods(1, "A", 0, 5, 3), goods(2, "B", 0, 9, 3)}, []api.Want{want("A", 2, 3)}, []api.Use{use(0, 2, 3)}, false},
		{[]api.Lot{goods(1, "A", 3, 5, 3)}, []api.Want{want("A", 3, 1), want("A", 4, 1)}, []api.Use{use(0, 1, 1), use(1, 1, 1)}, true},
		{[]api.Lot{goods(1, "A", 3, 5, 3)}, []api.Want{want("A", 2, 1)}, []api.Use{use(0, 1, 1)}, false},
		{[]api.Lot{goods(1, "A", 3, 5, 3)}, []api.Want{want("A", 5, 1)}, []api.Use{use(0, 1, 1)}, false},
	} {
		if got := Check(c.lots, c.wants, c.uses); got != c.want {
			t.Error("Check", i, got)
		}
	}
}

// TestP5_2CheckNotTogether checks uses that would serve, of lots and wants that may not be together.
func TestP5_2CheckNotTogether(t *testing.T) {
	lots, wants := example()
	uses, _ := Fill(lots, wants)
	for _, wrong := range wrongLots() {
		if Check(append(slices.Clone(lots), wrong), wants, uses) || Check([]api.Lot{wrong}, nil, nil) {
			t.Error("wrong lot", wrong)
		}
	}
	for _, wrong := range wrongWants() {
		all := append(slices.Clone(wants), wrong)
		if Check(lots, all, uses) || Check(lots, all, append(slices.Clone(uses), use(2, 2, wrong.Qty))) || Check(lots, []api.Want{wrong}, nil) {
			t.Error("wrong want", wrong)
		}
	}
	if Check(append(slices.Clone(lots), lots[0]), wants, uses) || Check(append(slices.Clone(lots), goods(1, "B", 7, 8, 1)), wants, uses) {
		t.Error("two of one Id")
	}
}

// served is a plain other way to Check, of right lots and wants: what each want and each lot comes to is summed up, at any size.
func served(lots []api.Lot, wants []api.Want, uses []api.Use) bool {
	ofWants, ofLots := map[int]*big.Int{}, map[int]*big.Int{}
	for i := range wants {
		ofWants[i] = new(big.Int)
	}
	for i := range lots {
		ofLots[lots[i].Id] = new(big.Int)
	}
	for _, u := range uses {
		at := slices.IndexFunc(lots, func(l api.Lot) bool { return l.Id == u.Lot })
		if at < 0 || ofWants[u.Want] == nil || u.Qty <= 0 {
			return false
		}
		l, w := lots[at], wants[u.Want]
		if l.Item != w.Item || w.Day < l.Days.From || w.Day >= l.Days.Until {
			return false
		}
		ofWants[u.Want].Add(ofWants[u.Want], big.NewInt(u.Qty))
		ofLots[u.Lot].Add(ofLots[u.Lot], big.NewInt(u.Qty))
	}
	for i, w := range wants {
		if ofWants[i].Cmp(big.NewInt(w.Qty)) != 0 {
			return false
		}
	}
	for _, l := range lots {
		if ofLots[l.Id].Cmp(big.NewInt(l.Qty)) > 0 {
			return false
		}
	}
	return true
}

// turned answers uses with something about them turned by a fixed rule, often so that they still serve.
func turned(r *rand.Rand, uses []api.Use) []api.Use {
	l := slices.Clone(uses)
	for range 1 + r.Intn(3) {
		if len(l) == 0 {
			return append(l, use(r.Intn(3), r.Intn(3), int64(r.Intn(3))))
		}
		at := r.Intn(len(l))
		switch r.Intn(8) {
		case 0:
			l[at].Qty += int64(r.Intn(3)) - 1
		case 1:
			l[at].Want += r.Intn(3) - 1
		case 2:
			l[at].Lot = l[r.Intn(len(l))].Lot
		case 3:
			l = slices.Delete(l, at, at+1)
		case 4:
			l = append(l, l[at])
		case 5:
			l[at].Qty--
			l = append(l, use(l[at].Want, l[at].Lot, 1))
		case 6:
			other := r.Intn(len(l))
			l[at].Lot, l[other].Lot = l[other].Lot, l[at].Lot
		case 7:
			r.Shuffle(len(l), func(i, j int) { l[i], l[j] = l[j], l[i] })
		}
	}
	return l
}

func TestP5_2CheckAsPlain(t *testing.T) {
	r := rand.New(rand.NewSource(3))
	told := [2]int{}
	for range 8000 {
		lots := someLots(r, 9, 12)
		wants := someWants(r, lots, 6, 5)
		uses, _ := Fill(lots, wants)
		for range 4 {
			other := turned(r, uses)
			want := served(lots, wants, other)
			if got := Check(lots, wants, other); got != want {
				t.Fatal("Check", lots, wants, other, got)
			}
			if !want {
				told[1]++
			} else if len(wants) > 1 {
				told[0]++
			}
		}
	}
	if told[0] < 1000 || told[1] < 1000 {
		t.Error("too few of one kind", told)
	}
}

// anyServes tells, by trying one by one of all that is wanted with each lot, whether there are uses that serve the wants.
func anyServes(lots []api.Lot, wants []api.Want) bool {
	var units []api.Want
	for _, w := range wants {
		for range w.Qty {
			units = append(units, w)
		}
	}
	left := slices.Clone(lots)
	failed := map[string]bool{}
	var try func(at int) bool
	try = func(at int) bool {
		if at == len(units) {
			return true
		}
		state := fmt.Sprint(at, left)
		if failed[state] {
			return false
		}
		for i := range left {
			l := left[i]
			if l.Item == units[at].Item && l.Days.From <= units[at].Day && units[at].Day < l.Days.Until && l.Qty > 0 {
				left[i].Qty--
				ok := try(at + 1)
				left[i].Qty++
				if ok {
					return true
				}
			}
		}
		failed[state] = true
		return false
	}
	return try(0)
}

// tooMuch tells whether some wants of one item want more than the lots that can serve one of them have.
func tooMuch(lots []api.Lot, wants []api.Want) bool {
	for some := range 1 << len(wants) {
		for _, item := range []string{"A", "B", "AB"} {
			wanted, had := int64(0), int64(0)
			can := func(l api.Lot) bool {
				for i, w := range wants {
					if some>>i&1 == 1 && w.Item == item && l.Item == item && l.Days.From <= w.Day && w.Day < l.Days.Until {
						return true
					}
				}
				return false
			}
			for i, w := range wants {
				if some>>i&1 == 1 && w.Item == item {
					wanted += w.Qty
				}
			}
			for _, l := range lots {
				if can(l) {
					had += l.Qty
				}
			}
			if wanted > had {
				return true
			}
		}
	}
	return false
}

// TestP5_3 holds Fill to what it is for: it tells uses that serve, just if there are any, and just if no wants of one item want too much.
func TestP5_3(t *testing.T) {
	r := rand.New(rand.NewSource(4))
	told := [2]int{}
	for range 3000 {
		lots := someLots(r, 6, 3)
		wants := someWants(r, lots, 4, 3)
		uses, ok := Fill(lots, wants)
		if ok && (!Check(lots, wants, uses) || !served(lots, wants, uses)) {
			t.Fatal("does not serve", lots, wants, uses)
		}
		if ok != anyServes(lots, wants) {
			t.Fatal("could be served, or not", lots, wants, uses, ok)
		}
		if ok == tooMuch(lots, wants) {
			t.Fatal("too much, or not", lots, wants, uses, ok)
		}
		if !ok {
			told[1]++
		} else if len(wants) > 1 {
			told[0]++
		}
	}
	if told[0] < 300 || told[1] < 300 {
		t.Error("too few of one kind", told)
	}
}

// TestP5_3OfMany holds greater ones, which can be tried in no other way, to be served as long as each day's wants are made of lots that have it.
func TestP5_3OfMany(t *testing.T) {
	r := rand.New(rand.NewSource(5))
	for range 200 {
		lots := someLots(r, 300, 1<<30)
		var wants []api.Want
		for _, l := range lots {
			// What is wanted is parts of lots, so that there are uses; all of them are then put in any order.
			for rest := l.Qty; rest > 0; {
				qty := min(rest, 1+r.Int63n(1<<30))
				wants = append(wants, want(l.Item, l.Days.From+r.Intn(l.Days.Until-l.Days.From), qty))
				rest -= qty
			}
		}
		r.Shuffle(len(wants), func(i, j int) { wants[i], wants[j] = wants[j], wants[i] })
		uses, ok := Fill(lots, wants)
		if !ok || !Check(lots, wants, uses) {
			t.Fatal("could be served", len(lots), len(wants), ok)
		}
		if left, ok := Left(lots, wants); len(left) != 0 || !ok {
			t.Fatal("something left", left, ok)
		}
		wants = append(wants, want("A", r.Intn(10), 1))
		refused(t, lots, wants)
	}
}

// TestNothingKept holds all calls to DOC.md's R3 and R4: no argument is changed or kept, what is handed out is new, and told alike each time.
func TestNothingKept(t *testing.T) {
	lots := append(slices.Grow([]api.Lot(nil), 9), goods(7, "A", 0, 9, 5), goods(4, "A", 0, 5, 3), goods(5, "B", 0, 5, 3))
	wants := append(slices.Grow([]api.Want(nil), 9), want("A", 7, 2), want("A", 2, 4), want("B", 2, 1))
	lotsBefore, wantsBefore := slices.Clone(lots), slices.Clone(wants)
	uses, _ := Fill(lots, wants)
	left, _ := Left(lots, wants)
	wantUses, wantLeft := slices.Clone(uses), slices.Clone(left)
	Fits(lots, wants)
	Check(lots, wants, uses)
	if !slices.Equal(uses, wantUses) || len(uses) != 4 || len(left) != 2 {
		t.Fatal("answers", uses, left)
	}
	for i := range uses {
		uses[i] = use(9, 9, 9)
	}
	for i := range left {
		left[i] = goods(99, "Z", 1, 2, 3)
	}
	if !slices.Equal(lots, lotsBefore) || !slices.Equal(wants, wantsBefore) {
		t.Error("argument changed", lots, wants)
	}
	for _, l := range lots[len(lots):cap(lots)] {
		if l != (api.Lot{}) {
			t.Error("written behind the lots", l)
		}
	}
	for range 20 {
		again, _ := Fill(lots, wants)
		rest, _ := Left(lots, wants)
		if !slices.Equal(again, wantUses) || !slices.Equal(rest, wantLeft) {
			t.Fatal("told otherwise", again, rest)
		}
	}
	uses, _ = Fill(lots, wants)
	left, _ = Left(lots, wants)
	clear(lots)
	clear(wants)
	if !slices.Equal(uses, wantUses) || !slices.Equal(left, wantLeft) {
		t.Error("argument kept", uses, left)
	}
}
