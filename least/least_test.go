package least

import (
	"fmt"
	"math"
	"math/rand"
	"slices"
	"testing"

	"storeman/api"
	"storeman/flow"
	"storeman/window"
)

func batch(id int, item string, from, until int, qty int64) api.Lot {
	return api.Lot{Id: id, Item: item, Days: api.Window{From: from, Until: until}, Qty: qty}
}

func want(item string, day int, qty int64) api.Want {
	return api.Want{Item: item, Day: day, Qty: qty}
}

func parts(item string, qtys ...int64) []api.Part {
	var l []api.Part
	for _, qty := range qtys {
		l = append(l, api.Part{Item: item, Qty: qty})
	}
	return l
}

func days(ends ...int) []api.Window {
	var l []api.Window
	for i := 0; i < len(ends); i += 2 {
		l = append(l, api.Window{From: ends[i], Until: ends[i+1]})
	}
	return l
}

// example answers the lots and the wants of the chapter's example.
func example() ([]api.Lot, []api.Want) {
	return []api.Lot{batch(1, "A", 0, 5, 3), batch(2, "A", 7, 9, 4)}, []api.Want{want("A", 2, 2)}
}

// holds tells whether more can be had on a day, just as the chapter says it.
func holds(lots []api.Lot, wants []api.Want, more []api.Part, day int) bool {
	if day < 0 || day > api.MaxDay {
		return false
	}
	all := append([]api.Want{}, wants...)
	for _, p := range more {
		all = append(all, want(p.Item, day, p.Qty))
	}
	return flow.Fits(lots, all)
}

// plainDays is a plain other way to Days: each day that there is is tried.
func plainDays(lots []api.Lot, wants []api.Want, more []api.Part, from, to int) []api.Window {
	var l []api.Window
	for day := max(from, 0); day <= to && day <= api.MaxDay; day++ {
		if holds(lots, wants, more, day) {
			l = append(l, api.Window{From: day, Until: day + 1})
		}
	}
	return window.Rows(l)
}

// told holds what Day and Days answer to these rows of days.
func told(t *testing.T, lots []api.Lot, wants []api.Want, more []api.Part, from, to int, rows []api.Window) {
	t.Helper()
	about := fmt.Sprint(lots, wants, more, from, to)
	if len(about) > 400 {
		about = about[:400]
	}
	if l := Days(lots, wants, more, from, to); !slices.Equal(l, rows) {
		t.Errorf("Days of %s: %v, not %v", about, l, rows)
	}
	first, ok := 0, len(rows) > 0
	if ok {
		first = rows[0].From
	}
	if day, is := Day(lots, wants, more, from, to); day != first || is != ok {
		t.Errorf("Day of %s: %d, %t, not %d, %t", about, day, is, first, ok)
	}
}

// never holds that more cannot be had on any day, and that it's so on each day by the chapter's words.
func never(t *testing.T, lots []api.Lot, wants []api.Want, more []api.Part) {
	t.Helper()
	told(t, lots, wants, more, 0, api.MaxDay, nil)
	told(t, lots, wants, more, math.MinInt, math.MaxInt, nil)
	for _, day := range []int{0, 1, 2, 4, 5, 7, 8, 9, 4000} {
		if holds(lots, wants, more, day) {
			t.Error("the test is wrong:", more, day)
		}
	}
}

func TestP6_1Example(t *testing.T) {
	lots, wants := example()
	for _, c := range []struct {
		qty  int64
		from int
		to   int
		day  int
		ok   bool
	}{
		{1, 1, 20, 1, true}, {2, 1, 20, 7, true}, {5, 1, 20, 0, false}, {4, 1, 20, 7, true},
		{1, 4, 20, 4, true}, {1, 5, 20, 7, true}, {1, 5, 7, 7, true}, {1, 5, 6, 0, false}, {1, 8, 20, 8, true}, {1, 9, 20, 0, false},
		{1, 0, 0, 0, true}, {2, 0, 6, 0, false}, {2, 7, 7, 7, true}, {2, 8, 7, 0, false},
	} {
		if day, ok := Day(lots, wants, parts("A", c.qty), c.from, c.to); day != c.day || ok != c.ok {
			t.Error(c, day, ok)
		}
	}
}

func TestP6_1DaysThatThereAre(t *testing.T) {
	lots := []api.Lot{batch(1, "A", 0, 3, 1), batch(2, "A", 3999, 4001, 1)}
	for _, c := range []struct {
		from, to, day int
		ok            bool
	}{
		{-5, 4000, 0, true}, {math.MinInt, math.MaxInt, 0, true}, {math.MinInt, 0, 0, true}, {-5, -1, 0, false}, {math.MinInt, math.MinInt, 0, false}, {-1, 0, 0, true},
		{3, math.MaxInt, 3999, true}, {4000, 4000, 4000, true}, {4000, math.MaxInt, 4000, true}, {3, 3998, 0, false},
		{4001, 4001, 0, false}, {4001, math.MaxInt, 0, false}, {math.MaxInt, math.MaxInt, 0, false}, {math.MaxInt, math.MinInt, 0, false}, {2, 1, 0, false}, {1, math.MinInt, 0, false},
	} {
		if day, ok := Day(lots, nil, parts("A", 1), c.from, c.to); day != c.day || ok != c.ok {
			t.Error(c, day, ok)
		}
	}
}

func TestP6_1Nothing(t *testing.T) {
	lots, wants := example()
	// Nothing can be had on each day, if there is enough for what is wanted.
	told(t, lots, wants, nil, 3, 20, days(3, 21))
	told(t, lots, wants, []api.Part{}, -3, math.MaxInt, days(0, 4001))
	told(t, nil, nil, nil, math.MinInt, math.MaxInt, days(0, 4001))
	told(t, nil, nil, nil, 4000, 4000, days(4000, 4001))
	told(t, nil, nil, nil, 4001, 4001, nil)
	never(t, lots, []api.Want{want("A", 2, 4)}, nil)
	never(t, lots[:1], []api.Want{want("A", 7, 1)}, nil)
	never(t, nil, nil, parts("A", 1))
}

func TestP6_1OfMoreItems(t *testing.T) {
	lots := []api.Lot{batch(1, "A", 0, 6, 5), batch(2, "B", 4, 9, 1), batch(3, "C", 2, 8, 3)}
	kit := []api.Part{{Item: "A", Qty: 2}, {Item: "B", Qty: 1}, {Item: "C", Qty: 1}}
	told(t, lots, nil, kit, 0, 20, days(4, 6))
	told(t, lots, nil, kit[:2], 5, 20, days(5, 6))
	told(t, lots, nil, kit[1:], 0, 20, days(4, 8))
	told(t, lots, []api.Want{want("B", 8, 1)}, kit, 0, 20, nil)
	told(t, lots, []api.Want{want("A", 1, 3), want("C", 7, 2)}, kit, 0, 20, days(4, 6))
	told(t, lots, []api.Want{want("A", 1, 4), want("C", 7, 2)}, kit, 0, 20, nil)
	// All parts are had on one day: none of them may be on another one.
	told(t, []api.Lot{batch(1, "A", 0, 3, 1), batch(2, "B", 3, 6, 1)}, nil, kit[:2], 0, 20, nil)
	told(t, lots, nil, []api.Part{{Item: "A", Qty: 1}, {Item: "D", Qty: 1}}, 0, 20, nil)
}

func TestP6_1PartsOfOneItem(t *testing.T) {
	lots := []api.Lot{batch(1, "A", 0, 6, 5), batch(2, "A", 4, 9, 2), batch(3, "B", 1, 9, 1)}
	told(t, lots, nil, parts("A", 2, 3), 0, 20, days(0, 6))
	told(t, lots, nil, parts("A", 2, 3, 1), 0, 20, days(4, 6))
	told(t, lots, nil, parts("A", 2, 3, 3), 0, 20, nil)
	told(t, lots, nil, []api.Part{{Item: "A", Qty: 3}, {Item: "B", Qty: 1}, {Item: "A", Qty: 3}}, 0, 20, days(4, 6))
}

// TestP6_1AlreadyWanted: what was wanted already still is served, whether it is wanted sooner or later, and of whatever item.
func TestP6_1AlreadyWanted(t *testing.T) {
	lots := []api.Lot{batch(1, "A", 0, 10, 4), batch(2, "A", 5, 20, 3), batch(3, "B", 0, 10, 1)}
	told(t, lots, []api.Want{want("A", 12, 3)}, parts("A", 4), 0, 30, days(0, 10))
	told(t, lots, []api.Want{want("A", 12, 3)}, parts("A", 5), 0, 30, nil)
	told(t, lots, []api.Want{want("A", 9, 4), want("A", 2, 2)}, parts("A", 1), 0, 30, days(0, 20))
	told(t, lots, []api.Want{want("A", 9, 4), want("A", 2, 2)}, parts("A", 2), 0, 30, nil)
	told(t, lots, []api.Want{want("A", 9, 2), want("A", 2, 2)}, parts("A", 1), 12, 30, days(12, 20))
	told(t, lots, []api.Want{want("A", 2, 4)}, parts("A", 1), 0, 30, days(5, 20))
	// There is not enough of another item: then nothing can be had at all.
	never(t, lots, []api.Want{want("B", 2, 2)}, parts("A", 1))
	never(t, lots, []api.Want{want("B", 10, 1)}, parts("A", 1))
	never(t, lots, []api.Want{want("C", 2, 1)}, parts("A", 1))
}

// TestP6_1NotTogether: lots and wants that may not be together, though those of more's item may be.
func TestP6_1NotTogether(t *testing.T) {
	lots, wants := example()
	for _, item := range []string{"A", "B"} {
		for _, l := range []api.Lot{
			batch(0, item, 0, 9, 5), batch(-1, item, 0, 9, 5), batch(9, item, -1, 9, 5), batch(9, item, 4, 4, 5), batch(9, item, 5, 4, 5), batch(9, item, 0, 4002, 5),
			batch(9, item, math.MinInt, math.MaxInt, 5), batch(9, item, math.MaxInt, math.MinInt, 5), batch(9, item, 0, 9, 0), batch(9, item, 0, 9, 1<<30+1), batch(9, item, 0, 9, math.MinInt64),
			batch(1, item, 0, 9, 5), batch(2, item, 0, 9, 5), {},
		} {
			never(t, append(slices.Clone(lots), l), wants, parts("A", 1))
			never(t, append([]api.Lot{l}, lots...), nil, parts("A", 1))
		}
		for _, w := range []api.Want{want(item, -1, 1), want(item, 4001, 1), want(item, math.MaxInt, 1), want(item, 2, 0), want(item, 2, -1), want(item, 2, math.MinInt64), want(item, 2, math.MaxInt64), want("a", 2, 1), {}} {
			never(t, append(slices.Clone(lots), batch(9, "B", 0, 9, 5)), append(slices.Clone(wants), w), parts("A", 1))
			never(t, lots, []api.Want{w}, nil)
		}
	}
}

func TestP6_1WrongParts(t *testing.T) {
	lots, wants := example()
	for _, p := range []api.Part{
		{Item: "A", Qty: 0}, {Item: "A", Qty: -1}, {Item: "A", Qty: math.MinInt64}, {Item: "A", Qty: 1<<50 + 1}, {Item: "A", Qty: math.MaxInt64}, {Item: "A", Qty: 1 << 50},
		{Item: "", Qty: 1}, {Item: "a", Qty: 1}, {Item: "7A", Qty: 1}, {Item: "A ", Qty: 1}, {Item: "ABCDEFGHIJKLM", Qty: 1}, {Item: "B", Qty: 1}, {},
	} {
		never(t, lots, wants, []api.Part{p})
		never(t, lots, wants, []api.Part{p, {Item: "A", Qty: 1}})
		never(t, lots, wants, []api.Part{{Item: "A", Qty: 1}, p})
	}
	// What would run over together is never there.
	never(t, lots, wants, parts("A", math.MaxInt64, 1))
	never(t, lots, wants, parts("A", slices.Repeat([]int64{1 << 50}, 1<<14)...))
}

// many answers lots of some items and wants which they can serve, that there may be at most.
func many(lots, wants, items int) ([]api.Lot, []api.Want) {
	var l []api.Lot
	for i := range lots {
		l = append(l, batch(i+1, fmt.Sprint("A", i%items), 5*(i/items), 5*(i/items)+20, 1<<20))
	}
	var w []api.Want
	for i := range wants {
		of := l[i%lots]
		w = append(w, want(of.Item, of.Days.From+i%20, 1+int64(i%3)))
	}
	return l, w
}

func TestP6_1Limits(t *testing.T) {
	lots, wants := many(300, 20000, 3)
	told(t, lots, wants[:19999], parts("A0", 1<<19), 7, 40, days(7, 41))
	told(t, lots, wants[:19998], parts("A0", 1, 1<<20), 7, 40, days(7, 41))
	told(t, lots, wants[:19997], []api.Part{{Item: "A2", Qty: 1}, {Item: "A0", Qty: 1 << 19}, {Item: "A1", Qty: 1}}, 3, 4000, days(3, 515))
	told(t, lots, wants, nil, 7, 40, days(7, 41))
	// One more want than there may be, though there are far fewer of the item.
	never(t, lots, wants, parts("A0", 1))
	never(t, lots, wants[:19999], parts("A0", 1, 1))
	never(t, lots, wants[:19999], []api.Part{{Item: "A0", Qty: 1}, {Item: "A1", Qty: 1}})
	never(t, lots, append(slices.Clone(wants), wants[0]), nil)
	never(t, append(slices.Clone(lots), batch(301, "B", 0, 9, 1)), nil, parts("A0", 1))
	never(t, append(slices.Clone(lots), batch(301, "A0", 0, 9, 1)), nil, parts("A0", 1))
}

// someLots answers lots by a fixed rule, few of them of other items.
func someLots(r *rand.Rand, most int) []api.Lot {
	l := make([]api.Lot, r.Intn(most+1))
	ids := r.Perm(2 * most)
	for i := range l {
		from := r.Intn(14)
		l[i] = batch(ids[i]+1, []string{"A", "A", "B", "C"}[r.Intn(4)], from, from+1+r.Intn(6), 1+r.Int63n(6))
		l[i].Arrived = r.Intn(2) == 0
	}
	return l
}

// someWants answers wants by a fixed rule, most of which can be served by the lots.
func someWants(r *rand.Rand, lots []api.Lot, most int) []api.Want {
	var l []api.Want
	for range r.Intn(most + 1) {
		w := want([]string{"A", "B", "C"}[r.Intn(3)], r.Intn(20), 1+r.Int63n(3))
		if len(lots) > 0 {
			of := lots[r.Intn(len(lots))]
			w.Item, w.Day = of.Item, of.Days.From+r.Intn(of.Days.Until-of.Days.From)
		}
		if flow.Fits(lots, append(l, w)) || r.Intn(60) == 0 {
			l = append(l, w)
		}
	}
	return l
}

// someParts answers parts by a fixed rule.
func someParts(r *rand.Rand, most int) []api.Part {
	l := make([]api.Part, r.Intn(most+1))
	for i := range l {
		l[i] = api.Part{Item: []string{"A", "B", "C"}[r.Intn(3)], Qty: 1 + r.Int63n(3)}
	}
	return l
}

func TestP6_1AsPlain(t *testing.T) {
	r := rand.New(rand.NewSource(61))
	later, none := 0, 0
	for range 4000 {
		lots := someLots(r, 9)
		wants, more := someWants(r, lots, 9), someParts(r, 3)
		from, to := r.Intn(16)-3, r.Intn(26)-2
		rows := plainDays(lots, wants, more, from, to)
		told(t, lots, wants, more, from, to, rows)
		if len(rows) == 0 {
			none++
		} else if rows[0].From > max(from, 0) {
			later++
		}
	}
	if later < 300 || none < 300 {
		t.Error("the test tries too little:", later, none)
	}
}

func TestP6_2Example(t *testing.T) {
	lots, wants := example()
	told(t, lots, wants, parts("A", 1), 1, 20, days(1, 5, 7, 9))
	told(t, lots, wants, parts("A", 2), 1, 20, days(7, 9))
	told(t, lots, wants, parts("A", 5), 1, 20, nil)
	told(t, lots, wants, parts("A", 1), 4, 7, days(4, 5, 7, 8))
	told(t, lots, wants, parts("A", 1), 5, 6, nil)
	told(t, lots, wants, parts("A", 1), 3, 3, days(3, 4))
	told(t, lots, wants, parts("A", 1), 3, 2, nil)
	told(t, lots, wants, parts("A", 1), math.MinInt, math.MaxInt, days(0, 5, 7, 9))
	told(t, lots, wants, parts("A", 1), math.MaxInt, math.MinInt, nil)
}

// TestP6_2FewestWindows: where lots begin and end, while there is enough on both sides, no window ends.
func TestP6_2FewestWindows(t *testing.T) {
	lots := []api.Lot{batch(1, "A", 0, 5, 3), batch(2, "A", 5, 9, 3), batch(3, "A", 7, 4001, 3), batch(4, "B", 3, 6, 1), batch(5, "B", 12, 4001, 9)}
	told(t, lots, nil, parts("A", 3), 0, 9000, days(0, 4001))
	told(t, lots, nil, parts("A", 4), 0, 9000, days(7, 9))
	told(t, lots, nil, []api.Part{{Item: "A", Qty: 3}, {Item: "B", Qty: 1}}, 0, 9000, days(3, 6, 12, 4001))
	told(t, lots, nil, []api.Part{{Item: "B", Qty: 1}, {Item: "A", Qty: 3}}, 4, 4000, days(4, 6, 12, 4001))
	told(t, lots, nil, []api.Part{{Item: "B", Qty: 2}, {Item: "A", Qty: 3}}, 0, 13, days(12, 14))
	told(t, lots, []api.Want{want("A", 8, 3), want("A", 4, 2)}, parts("A", 2), 0, 9000, days(5, 4001))
}

// TestP6_2ManyWindows: as many lots as there may be, with days between each and the next one.
func TestP6_2ManyWindows(t *testing.T) {
	var lots []api.Lot
	var rows []api.Window
	for i := range 300 {
		lots = append(lots, batch(i+1, "A", 13*i, 13*i+4, 2))
		rows = append(rows, api.Window{From: 13 * i, Until: 13*i + 4})
	}
	slices.Reverse(lots)
	told(t, lots, nil, parts("A", 2), 0, api.MaxDay, rows)
	told(t, lots, nil, parts("A", 2), 1, 13*299, append(append(days(1, 4), rows[1:299]...), days(13*299, 13*299+1)...))
	told(t, lots, []api.Want{want("A", 13*7+2, 1)}, parts("A", 2), 13*6+3, 13*8, days(13*6+3, 13*6+4, 13*8, 13*8+1))
}

func TestP6_2AsPlain(t *testing.T) {
	r := rand.New(rand.NewSource(62))
	cut := 0
	for range 40 {
		lots := someLots(r, 20)
		for i := range lots {
			// Spread over all days there are, the last one, too.
			lots[i].Days.From = r.Intn(4001)
			lots[i].Days.Until = min(lots[i].Days.From+1+r.Intn(900), 4001)
		}
		wants, more := someWants(r, lots, 12), append(parts("A", 1), someParts(r, 1)...)
		from, to := r.Intn(1500)-50, 2500+r.Intn(2000)
		rows := plainDays(lots, wants, more, from, to)
		told(t, lots, wants, more, from, to, rows)
		if len(rows) > 1 {
			cut++
		}
	}
	if cut < 10 {
		t.Error("the test tries too little:", cut)
	}
}

func TestP6_3LeastDay(t *testing.T) {
	r := rand.New(rand.NewSource(63))
	begun := 0
	for range 2000 {
		lots := someLots(r, 9)
		wants, more := someWants(r, lots, 9), someParts(r, 3)
		from := r.Intn(12) - 3
		day, ok := Day(lots, wants, more, from, api.MaxDay)
		if !ok || day == max(from, 0) {
			continue
		}
		begun++
		if !slices.ContainsFunc(lots, func(l api.Lot) bool {
			return l.Days.From == day && slices.ContainsFunc(more, func(p api.Part) bool { return p.Item == l.Item })
		}) {
			t.Error("no lot begins on the day", day, lots, wants, more)
		}
	}
	if begun < 200 {
		t.Error("the test tries too little:", begun)
	}
}

// within tells whether all days of some rows are days of others.
func within(some, others []api.Window) bool {
	return slices.Equal(window.Rows(append(slices.Clone(some), others...)), others)
}

func TestP6_3LessWantedMoreThere(t *testing.T) {
	r := rand.New(rand.NewSource(64))
	gained := 0
	for range 2000 {
		lots := someLots(r, 9)
		wants, more := someWants(r, lots, 9), someParts(r, 3)
		rows := Days(lots, wants, more, -1, 30)
		var easier [][]api.Window
		if len(wants) > 0 {
			at := r.Intn(len(wants))
			easier = append(easier, Days(lots, slices.Delete(slices.Clone(wants), at, at+1), more, -1, 30))
		}
		if len(more) > 0 {
			easier = append(easier, Days(lots, wants, more[1:], -1, 30))
		}
		if len(lots) > 0 {
			at, richer := r.Intn(len(lots)), slices.Clone(lots)
			richer[at].Qty += 1 + r.Int63n(3)
			easier = append(easier, Days(richer, wants, more, -1, 30))
			richer[at].Days.Until += 2
			easier = append(easier, Days(richer, wants, more, -1, 30))
		}
		from := r.Intn(14)
		easier = append(easier, Days(append(slices.Clone(lots), batch(99, "A", from, from+4, 2)), wants, more, -1, 30))
		for _, l := range easier {
			if !within(rows, l) {
				t.Error("some days are lost:", rows, l, lots, wants, more)
			}
			if window.Count(l) > window.Count(rows) {
				gained++
			}
		}
	}
	if gained < 500 {
		t.Error("the test tries too little:", gained)
	}
}

func TestNothingKept(t *testing.T) {
	r := rand.New(rand.NewSource(65))
	for range 300 {
		lots := someLots(r, 9)
		wants, more := someWants(r, lots, 9), someParts(r, 3)
		ofLots, ofWants, ofMore := slices.Clone(lots), slices.Clone(wants), slices.Clone(more)
		// Room behind the lists, where nothing may be put.
		lots, wants, more = append(lots, batch(77, "Z", 1, 2, 3))[:len(lots)], append(wants, want("Z", 1, 2))[:len(wants)], append(more, api.Part{Item: "Z", Qty: 1})[:len(more)]
		rows := Days(lots, wants, more, 0, 30)
		day, ok := Day(lots, wants, more, 0, 30)
		if !slices.Equal(lots, ofLots) || !slices.Equal(wants, ofWants) || !slices.Equal(more, ofMore) {
			t.Error("an argument was changed")
		}
		if lots[:len(lots)+1][len(lots)].Id != 77 || wants[:len(wants)+1][len(wants)].Item != "Z" || more[:len(more)+1][len(more)].Item != "Z" {
			t.Error("something was put behind an argument")
		}
		kept := slices.Clone(rows)
		for i := range rows {
			rows[i] = api.Window{From: -1, Until: -1}
		}
		if again := Days(lots, wants, more, 0, 30); !slices.Equal(again, kept) {
			t.Error("not answered alike:", again, kept)
		}
		if d, o := Day(lots, wants, more, 0, 30); d != day || o != ok {
			t.Error("not answered alike:", d, o, day, ok)
		}
	}
}
